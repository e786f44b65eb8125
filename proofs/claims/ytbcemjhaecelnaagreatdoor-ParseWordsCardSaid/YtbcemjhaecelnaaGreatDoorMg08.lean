import Derived.Lib.MapLaws
import Derived.Test.YtbcemjhaecelnaaGreatDoorMg03
import Derived.Maps.AppendAt
import Derived.Laws.OwnMore
import Derived.Deep.DeepMust
import Derived.Laws.StructEq
import Derived.Deep.RegionWith
import Derived.Deep.RegionHeld3
import Derived.Deep.QuietTactic
import Derived.BigQuiet
import Derived.OneCell
section
set_option maxHeartbeats 2000000
set_option maxRecDepth 100000
section
namespace Go.Proofs.YtbcemjhaecelnaaGreatDoor.Pat
inductive Pt where
 | choice (l : List Pt)
 | chain (l : List Pt)
 | times (x : Pt) (a b : Bool)
 | only (r : Int)
 | cls (neg : Bool) (items : List (Int × Int))
 | dot
abbrev Sg := Int × Bool
def atB (l : List Sg) (r : Int) : Bool := match l with
 | [] => false
 | s :: _ => s.1 == r && s.2
def zeJ (l : List Sg) (r : Int) : List Sg := if atB l r then l.tail else l
def zbN (l : List Sg) : (Int × Int) × List Sg := match l with
 | [] => ((0, 0), [])
 | s :: t => if atB t 45 && (decide (2 <= t.length) && !atB t.tail 93) then ((s.1, (t.tail.headD (0, false)).1), t.tail.tail) else ((s.1, s.1), t)
def zcb : Nat -> List Sg -> List (Int × Int) -> Option (List (Int × Int) × List Sg)
 | 0, _, _ => none
 | n + 1, l, acc => if l.isEmpty || atB l 93 then some (acc, l) else if (zbN l).1.2 < (zbN l).1.1 then none else zcb n (zbN l).2 (acc ++ [(zbN l).1])
def zds (l : List Sg) (acc : List (Int × Int)) : Option (List (Int × Int) × List Sg) := zcb (l.length + 1) l acc
def zbx (l : List Sg) : Option (Pt × List Sg) := match zds (zeJ l 94) [] with
 | none => none
 | some (items, m) => if atB m 93 && decide (0 < items.length) then some (.cls (atB l 94) items, m.tail) else none
def timesF (x : Pt) (l : List Sg) : Pt := if atB l 42 then .times x true true else if atB l 43 then .times x false true else if atB l 63 then .times x true false else x
def zbs (l : List Sg) : List Sg := if atB l 42 || (atB l 43 || atB l 63) then l.tail else l
def zdV (r : Int) : Bool := r == 42 || (r == 43 || (r == 63 || (r == 124 || (r == 40 || (r == 41 || (r == 91 || r == 93))))))
def zeK (l : List Sg) : Bool := l.isEmpty || (atB l 124 || atB l 41)
mutual
def Pt.size : Pt -> Nat
 | .choice l => zaI l
 | .chain l => zaI l
 | .times x _ _ => x.size
 | .only _ => 1
 | .cls _ _ => 1
 | .dot => 1
def zaI : List Pt -> Nat
 | [] => 0
 | x :: xs => x.size + zaI xs
end
def litP (l : List Sg) : Option (Pt × List Sg) := match l with
 | [] => none
 | s :: t => if s.2 && zdV s.1 then none else some (.only s.1, t)
theorem zh7 {l : List Sg} {x : Pt} {m : List Sg} (h : litP l = some (x, m)) : m.length < l.length /\ x.size = 1 := by
 unfold litP at h
 split at h
 ·cases h
 ·split at h
  ·cases h
  ·injection h with h; injection h with h1 h; subst h; subst h1
   exact ⟨by simp, rfl⟩
mutual
def za7 : Nat -> List Sg -> List Pt -> Option (List Pt × List Sg)
 | 0, _, _ => none
 | n + 1, l, acc => match chainGo n l [] with
   | none => none
   | some (c, m) => if atB m 124 then za7 n m.tail (acc ++ [.chain c]) else some (acc ++ [.chain c], m)
def chainGo : Nat -> List Sg -> List Pt -> Option (List Pt × List Sg)
 | 0, _, _ => none
 | n + 1, l, acc => if zeK l then some (acc, l) else match zbC n l with
   | none => none
   | some (x, m) => chainGo n (zbs m) (acc ++ [timesF x m])
def zbC : Nat -> List Sg -> Option (Pt × List Sg)
 | 0, _ => none
 | n + 1, l => if atB l 40 then (match za7 n l.tail [] with
  | none => none
  | some (c, m) => if atB m 41 then some (.choice c, m.tail) else none)
   else if atB l 91 then zbx l.tail
   else if atB l 46 then some (.dot, l.tail)
   else litP l
end
def zbn (l : List Sg) (acc : List Pt) : Option (List Pt × List Sg) := za7 (3 * l.length + 3) l acc
def zc8 (l : List Sg) (acc : List Pt) : Option (List Pt × List Sg) := chainGo (3 * l.length + 2) l acc
def zdW (l : List Sg) : Option (Pt × List Sg) := zbC (3 * l.length + 1) l
def zay : Bool -> List Int -> List Sg
 | _, [] => []
 | b, r :: rs => if r == 92 && !b then zay true rs else (r, !b) :: zay false rs
def zaV : Bool -> List Int -> Bool
 | b, [] => b
 | b, r :: rs => if r == 92 && !b then zaV true rs else zaV false rs
def readP (rs : List Int) : Option Pt := if zaV false rs then none else match zbn (zay false rs) [] with
 | none => none
 | some (c, m) => if m.isEmpty then some (.choice c) else none
theorem zaW {l : List Sg} {r : Int} (h : atB l r = true) : l.tail.length + 1 = l.length := by
 cases l with
 | nil => simp [atB] at h
 | cons s t => simp
theorem zec (l : List Sg) (h : l ≠ []) : (zbN l).2.length < l.length := by
 cases l with
 | nil => exact absurd rfl h
 | cons s t =>
   unfold zbN
   dsimp only
   split
   ·simp; omega
   ·simp
theorem zeZ : ∀ (n : Nat) (l : List Sg) (acc : List (Int × Int)) (xs : List (Int × Int)) (m : List Sg), zcb n l acc = some (xs, m) -> m.length <= l.length
 | 0, _, _, _, _, h => by simp [zcb] at h
 | n + 1, l, acc, xs, m, h => by
   rw [zcb] at h
   split at h
   ·injection h with h; injection h with _ h; subst h; exact Nat.le_refl _
   ·split at h
    ·cases h
    ·rename_i h1 _
     have hne : l ≠ [] := by rintro rfl; simp at h1
     have := zeZ n _ _ _ _ h
     have := zec l hne
     omega
theorem zdS : ∀ (n k : Nat) (l : List Sg) (acc : List (Int × Int)), l.length < n -> l.length < k -> zcb n l acc = zcb k l acc
 | 0, _, _, _, h, _ => by omega
 | _ + 1, 0, _, _, _, h => by omega
 | n + 1, k + 1, l, acc, hn, hk => by
   rw [zcb, zcb]
   split
   ·rfl
   ·split
    ·rfl
    ·rename_i h1 _
     have hne : l ≠ [] := by rintro rfl; simp at h1
     have := zec l hne
     exact zdS n k _ _ (by omega) (by omega)
theorem zc9 (l : List Sg) (acc : List (Int × Int)) : zds l acc = if l.isEmpty || atB l 93 then some (acc, l) else if (zbN l).1.2 < (zbN l).1.1 then none else zds (zbN l).2 (acc ++ [(zbN l).1]) := by
 unfold zds
 rw [zcb]
 split
 ·rfl
 ·split
  ·rfl
  ·rename_i h1 _
   have hne : l ≠ [] := by rintro rfl; simp at h1
   have := zec l hne
   exact zdS _ _ _ _ (by omega) (by omega)
theorem takeB_le (l : List Sg) (r : Int) : (zeJ l r).length <= l.length := by
 unfold zeJ; split <;> simp
theorem zgb {l : List Sg} {x : Pt} {m : List Sg} (h : zbx l = some (x, m)) : m.length < l.length := by
 unfold zbx at h
 split at h
 ·cases h
 ·rename_i items k hk
  split at h
  ·rename_i hc
   injection h with h; injection h with _ h; subst h
   have h1 := zeZ _ _ _ _ _ hk
   have h2 := takeB_le l 94
   have h3 := zaW (l := k) (r := 93) (by simp at hc; exact hc.1)
   omega
  ·cases h
theorem zcA (l : List Sg) : (zbs l).length <= l.length := by
 unfold zbs; split <;> simp
theorem zg7 : ∀ (n : Nat),
 (∀ (l : List Sg) (acc c : List Pt) (m : List Sg), za7 n l acc = some (c, m) -> m.length <= l.length) /\
 (∀ (l : List Sg) (acc c : List Pt) (m : List Sg), chainGo n l acc = some (c, m) -> m.length <= l.length) /\
 (∀ (l : List Sg) (x : Pt) (m : List Sg), zbC n l = some (x, m) -> m.length < l.length)
 | 0 => ⟨fun _ _ _ _ h => by simp [za7] at h, fun _ _ _ _ h => by simp [chainGo] at h, fun _ _ _ h => by simp [zbC] at h⟩
 | n + 1 => by
   obtain ⟨i1, i2, i3⟩ := zg7 n
   refine ⟨?_, ?_, ?_⟩
   ·intro l acc c m h
    rw [za7] at h
    split at h
    ·cases h
    ·rename_i d k hk
     have := i2 _ _ _ _ hk
     split at h
     ·rename_i hb
      have := i1 _ _ _ _ h
      have := zaW hb
      omega
     ·injection h with h; injection h with _ h; subst h; exact this
   ·intro l acc c m h
    rw [chainGo] at h
    split at h
    ·injection h with h; injection h with _ h; subst h; exact Nat.le_refl _
    ·split at h
     ·cases h
     ·rename_i x k hk
      have := i3 _ _ _ hk
      have := i2 _ _ _ _ h
      have := zcA k
      omega
   ·intro l x m h
    rw [zbC] at h
    split at h
    ·rename_i hb
     have hl := zaW hb
     split at h
     ·cases h
     ·rename_i d k hk
      have := i1 _ _ _ _ hk
      split at h
      ·rename_i hc
       injection h with h; injection h with _ h; subst h
       have := zaW hc
       omega
      ·cases h
    ·split at h
     ·rename_i hb
      have hl := zaW hb
      have := zgb h
      omega
     ·split at h
      ·rename_i hb
       have hl := zaW hb
       injection h with h; injection h with _ h; subst h
       omega
      ·exact (zh7 h).1
theorem chainP_le {l : List Sg} {acc c : List Pt} {m : List Sg} (h : zc8 l acc = some (c, m)) : m.length <= l.length := (zg7 _).2.1 _ _ _ _ h
theorem atomP_lt {l : List Sg} {x : Pt} {m : List Sg} (h : zdW l = some (x, m)) : m.length < l.length := (zg7 _).2.2 _ _ _ h
theorem zew : ∀ (n : Nat),
 (∀ (k : Nat) (l : List Sg) (acc : List Pt), 3 * l.length + 3 <= n -> 3 * l.length + 3 <= k -> za7 n l acc = za7 k l acc) /\
 (∀ (k : Nat) (l : List Sg) (acc : List Pt), 3 * l.length + 2 <= n -> 3 * l.length + 2 <= k -> chainGo n l acc = chainGo k l acc) /\
 (∀ (k : Nat) (l : List Sg), 3 * l.length + 1 <= n -> 3 * l.length + 1 <= k -> zbC n l = zbC k l)
 | 0 => ⟨fun _ _ _ h _ => by omega, fun _ _ _ h _ => by omega, fun _ _ h _ => by omega⟩
 | n + 1 => by
   obtain ⟨i1, i2, i3⟩ := zew n
   refine ⟨?_, ?_, ?_⟩
   ·intro k l acc hn hk
    cases k with
    | zero => omega
    | succ k =>
      rw [za7, za7, i2 k l [] (by omega) (by omega)]
      split
      ·rfl
      ·rename_i d m hm
       have hl := (zg7 _).2.1 _ _ _ _ hm
       split
       ·rename_i hb
        have := zaW hb
        exact i1 _ _ _ (by omega) (by omega)
       ·rfl
   ·intro k l acc hn hk
    cases k with
    | zero => omega
    | succ k =>
      rw [chainGo, chainGo]
      split
      ·rfl
      ·rw [i3 k l (by omega) (by omega)]
       split
       ·rfl
       ·rename_i d m hm
        have hl := (zg7 _).2.2 _ _ _ hm
        have := zcA m
        exact i2 _ _ _ (by omega) (by omega)
   ·intro k l hn hk
    cases k with
    | zero => omega
    | succ k =>
      rw [zbC, zbC]
      split
      ·rename_i hb
       have := zaW hb
       rw [i1 k l.tail [] (by omega) (by omega)]
      ·rfl
theorem choiceP_eq (l : List Sg) (acc : List Pt) : zbn l acc = match zc8 l [] with
 | none => none
 | some (c, m) => if atB m 124 then zbn m.tail (acc ++ [.chain c]) else some (acc ++ [.chain c], m) := by
 unfold zbn zc8
 rw [za7]
 split
 ·rfl
 ·rename_i d m hm
  have hl := (zg7 _).2.1 _ _ _ _ hm
  split
  ·rename_i hb
   have := zaW hb
   exact (zew _).1 _ _ _ (by omega) (by omega)
  ·rfl
theorem zgc (l : List Sg) (acc : List Pt) : zc8 l acc = if zeK l then some (acc, l) else match zdW l with
 | none => none
 | some (x, m) => zc8 (zbs m) (acc ++ [timesF x m]) := by
 unfold zc8 zdW
 rw [chainGo]
 split
 ·rfl
 ·split
  ·rfl
  ·rename_i d m hm
   have hl := (zg7 _).2.2 _ _ _ hm
   have := zcA m
   exact (zew _).2.1 _ _ _ (by omega) (by omega)
theorem zed (l : List Sg) : zdW l = if atB l 40 then (match zbn l.tail [] with
 | none => none
 | some (c, m) => if atB m 41 then some (.choice c, m.tail) else none)
 else if atB l 91 then zbx l.tail
 else if atB l 46 then some (.dot, l.tail)
 else litP l := by
 unfold zdW zbn
 rw [zbC]
 split
 ·rename_i hb
  have := zaW hb
  rw [(zew _).1 (3 * l.tail.length + 3) l.tail [] (by omega) (by omega)]
 ·rfl
theorem zcB : ∀ (xs ys : List Pt), zaI (xs ++ ys) = zaI xs + zaI ys
 | [], ys => by simp [zaI]
 | x :: xs, ys => by simp [zaI, zcB xs ys]; omega
theorem timesF_size (x : Pt) (l : List Sg) : (timesF x l).size = x.size := by
 unfold timesF; split
 ·rfl
 ·split
  ·rfl
  ·split <;> rfl
theorem classP_size {l : List Sg} {x : Pt} {m : List Sg} (h : zbx l = some (x, m)) : x.size = 1 := by
 unfold zbx at h
 split at h
 ·cases h
 ·split at h
  ·injection h with h; injection h with h _; subst h; rfl
  ·cases h
theorem zh8 : ∀ (n : Nat),
 (∀ (l : List Sg) (acc c : List Pt) (m : List Sg), za7 n l acc = some (c, m) -> zaI c + m.length <= zaI acc + l.length) /\
 (∀ (l : List Sg) (acc c : List Pt) (m : List Sg), chainGo n l acc = some (c, m) -> zaI c + m.length <= zaI acc + l.length) /\
 (∀ (l : List Sg) (x : Pt) (m : List Sg), zbC n l = some (x, m) -> x.size + m.length <= l.length)
 | 0 => ⟨fun _ _ _ _ h => by simp [za7] at h, fun _ _ _ _ h => by simp [chainGo] at h, fun _ _ _ h => by simp [zbC] at h⟩
 | n + 1 => by
   obtain ⟨i1, i2, i3⟩ := zh8 n
   refine ⟨?_, ?_, ?_⟩
   ·intro l acc c m h
    rw [za7] at h
    split at h
    ·cases h
    ·rename_i d k hk
     have h1 := i2 _ _ _ _ hk
     simp [zaI] at h1
     have hs : zaI (acc ++ [Pt.chain d]) = zaI acc + zaI d := by rw [zcB]; simp [zaI, Pt.size]
     split at h
     ·rename_i hb
      have h2 := i1 _ _ _ _ h
      have := zaW hb
      omega
     ·injection h with h; injection h with h1 h; subst h; subst h1; omega
   ·intro l acc c m h
    rw [chainGo] at h
    split at h
    ·injection h with h; injection h with h1 h; subst h; subst h1; exact Nat.le_refl _
    ·split at h
     ·cases h
     ·rename_i x k hk
      have h1 := i3 _ _ _ hk
      have h2 := i2 _ _ _ _ h
      have := zcA k
      have hs : zaI (acc ++ [timesF x k]) = zaI acc + x.size := by rw [zcB]; simp [zaI, timesF_size]
      omega
   ·intro l x m h
    rw [zbC] at h
    split at h
    ·rename_i hb
     have hl := zaW hb
     split at h
     ·cases h
     ·rename_i d k hk
      have h1 := i1 _ _ _ _ hk
      simp [zaI] at h1
      split at h
      ·rename_i hc
       injection h with h; injection h with h2 h; subst h; subst h2
       have := zaW hc
       simp [Pt.size]
       omega
      ·cases h
    ·split at h
     ·rename_i hb
      have hl := zaW hb
      have := zgb h
      have := classP_size h
      omega
     ·split at h
      ·rename_i hb
       have hl := zaW hb
       injection h with h; injection h with h1 h; subst h; subst h1
       simp [Pt.size]
       omega
      ·have := zh7 h
       omega
theorem zbO : ∀ (b : Bool) (rs : List Int), (zay b rs).length <= rs.length
 | _, [] => by simp [zay]
 | b, r :: rs => by
   rw [zay]
   split
   ·have := zbO true rs; simp; omega
   ·have := zbO false rs; simp; omega
theorem readP_size {rs : List Int} {x : Pt} (h : readP rs = some x) : x.size <= rs.length := by
 unfold readP at h
 split at h
 ·cases h
 ·split at h
  ·cases h
  ·rename_i c m hm
   split at h
   ·injection h with h; subst h
    have := (zh8 _).1 _ _ _ _ hm
    have h2 := zbO false rs
    simp [zaI] at this
    simp [Pt.size]
    omega
   ·cases h
end Go.Proofs.YtbcemjhaecelnaaGreatDoor.Pat
end
section
namespace Go.Proofs.YtbcemjhaecelnaaGreatDoor.Sto
abbrev Mat := ByteArray × Int × ByteArray
structure Mat.Ok (m : Mat) : Prop where
 name : m.1.size <= 1000000
 value : m.2.2.size <= 1000000
def patO (s : ByteArray) : Option Pat.Pt := if 40 < (zai s.data.toList).length then none else Pat.readP (zai s.data.toList)
def matB (m : Mat) : Bool := zbz m.1.data.toList && (m.2.1 == 1 || m.2.1 == 2 || ((m.2.1 == 3 || m.2.1 == 4) && (patO m.2.2).isSome))
def zbt (ms : List Mat) : Bool := decide (ms.length <= 10) && ms.all matB
end Go.Proofs.YtbcemjhaecelnaaGreatDoor.Sto
end
section
namespace Go.Proofs.YtbcemjhaecelnaaGreatDoor
open Go.RowKit
section
variable {P : Program} (w : World)
theorem run_append_keeps (base : Nat) (t ty e : TypeId) (i : TypeInfo) (z : Value) (size bytes : Nat) (ht : P.underlying t = some (.slice e)) (hi : P.info? e = some i) (hz : i.zero = some z)
 (hsize : i.size = size) (hby : i.bytes = bytes) (hzs : z.cells.size = size) (hsz : 0 < size)
 (v : Value) (n : Nat) (xs : List Value) (hown : w.ownsRow base e size v n xs)
 (a : Addr) (m c : Nat) (news : List Value) (hl : news.length = m * size) (hnews : ∀ j u, news[j]? = some u -> w.cell? (a.add j) = some u) (h1 : ∀ u ∈ news, u.oneCell' = true)
 (h63 : n + m <= maxLen) (hbytes : (n + m) * bytes <= 140737488355328) (hbase : base <= w.heap.size) :
 ∃ v' w', (Builtin.append_ #[t, t] ty #[v, .slice (some a) m c]).run P w = .ok v' w' /\ w'.ownsRow base e size v' (n + m) (xs ++ news) /\ w.grownBy w' v.ownBlock /\
  (v'.ownBlock = v.ownBlock \/ v'.ownBlock = some w.heap.size) /\ ∀ b0 v0 n0 xs0, n0 <= n -> w.ownsRow b0 e size v0 n0 xs0 -> w'.ownsRow b0 e size v0 n0 xs0 := by
 obtain ⟨v', w', hr, h2, h3, _, h5⟩ := run_append_own_at (P := P) w base t ty e i z size bytes ht hi hz hsize hby hzs hsz v n xs hown a m c news hl hnews h1 h63 hbytes hbase
 refine ⟨v', w', hr, h2, h3, h5, ?_⟩
 intro b0 v0 n0 xs0 hn0 h0
 by_cases hb : v0.ownBlock = none \/ v0.ownBlock ≠ v.ownBlock
 ·exact h0.kept h3 hb
 have hb1 : v0.ownBlock ≠ none := fun h => hb (.inl h)
 have hb2 : v0.ownBlock = v.ownBlock := Classical.byContradiction fun h => hb (.inr h)
 subst hsize
 subst hby
 have hown2 := hown
 rcases hown2.2 with ⟨rfl, _⟩ | ⟨g, cap, cur, rfl, hbg, hg, hnc, hcm, hcs, htake⟩
 ·exact absurd hb2 (by simpa [Value.ownBlock] using hb1)
 rcases h0.2 with ⟨rfl, _⟩ | ⟨g0, cap0, cur0, rfl, hbg0, hg0, hnc0, hcm0, hcs0, htake0⟩
 ·exact absurd rfl hb1
 have hgg : g0 = g := by simpa [Value.ownBlock] using hb2
 subst hgg
 rw [hg] at hg0
 injection hg0 with hg0
 injection hg0 with hg0 _ _
 subst hg0
 have hbig : n0 * i.size <= n * i.size := Nat.mul_le_mul_right _ hn0
 by_cases hroom : n + m <= cap
 ·have hfit : n * i.size + news.length <= cur.size := by rw [hl, hcs, <- Nat.add_mul]; exact Nat.mul_le_mul_right _ hroom
  have hr2 := run_append_room (P := P) w t ty e i ht hi g0 n cap cur hg a m c news hl hnews h1 hroom hfit
  rw [hr] at hr2
  injection hr2 with _ hw
  subst hw
  refine ⟨h0.1, .inr ⟨g0, cap0, _, rfl, hbg0, setRow_heap w g0 cur _ e _ hg, hnc0, hcm0, ?_, ?_⟩⟩
  ·simp only [List.size_toArray, List.length_append, List.length_take, List.length_drop, Array.length_toList]
   omega
  ·show ((cur.toList.take (n * i.size) ++ news ++ cur.toList.drop (n * i.size + news.length))).take (n0 * i.size) = xs0
   have hlt : (cur.toList.take (n * i.size)).length = n * i.size := by rw [List.length_take, Array.length_toList]; omega
   rw [List.append_assoc, List.take_append_of_le_length (by omega), List.take_take, Nat.min_eq_left hbig]
   exact htake0
 ·have hsmall : n + m <= 9223372036854775807 := by simp only [maxLen] at h63; omega
  have holds : ∀ j u, xs[j]? = some u -> w.cell? ((⟨g0, 0, none⟩ : Addr).add j) = some u := hown.cells (g := g0) rfl
  have hr2 := run_append_grow (P := P) w t ty e i z ht hi hz ⟨g0, 0, none⟩ n cap xs hown.1 holds a m c news hl hnews (by omega) (by omega) (growslice_fits (by omega) hbytes)
  rw [hr] at hr2
  injection hr2 with _ hw
  subst hw
  refine ⟨h0.1, .inr ⟨g0, cap0, cur, rfl, hbg0, ?_, hnc0, hcm0, hcs0, htake0⟩⟩
  rw [heap_alloc_old w.drew _ (Array.getElem?_eq_some_iff.1 hg).1]
  exact hg
theorem wp_append_keeps {o : Oper} {a : Act} {K : Act -> World -> Prop} {Q : Exit -> Act -> World -> Prop} (s x : Operand) (t : TypeId)
 (ho : o.op = .call { callee := .builtin .append, args := #[s, x], argTypes := #[t, t] })
 (base : Nat) (e : TypeId) (i : TypeInfo) (z : Value) (size bytes : Nat) (ht : P.underlying t = some (.slice e)) (hi : P.info? e = some i) (hz : i.zero = some z)
 (hsize : i.size = size) (hby : i.bytes = bytes) (hzs : z.cells.size = size) (hsz : 0 < size)
 (v : Value) (n : Nat) (xs : List Value) (hs : a.eval s = v) (hown : w.ownsRow base e size v n xs)
 (ad : Addr) (m c : Nat) (news : List Value) (hx : a.eval x = .slice (some ad) m c) (hl : news.length = m * size) (hnews : ∀ j u, news[j]? = some u -> w.cell? (ad.add j) = some u) (h1 : ∀ u ∈ news, u.oneCell' = true)
 (h63 : n + m <= maxLen) (hbytes : (n + m) * bytes <= 140737488355328) (hbase : base <= w.heap.size)
 (h : ∀ v' w', w'.ownsRow base e size v' (n + m) (xs ++ news) -> w.grownBy w' v.ownBlock -> (v'.ownBlock = v.ownBlock \/ v'.ownBlock = some w.heap.size) -> (∀ b0 v0 n0 xs0, n0 <= n -> w.ownsRow b0 e size v0 n0 xs0 -> w'.ownsRow b0 e size v0 n0 xs0) -> K (a.put o.dst v') w') : o.wp P a w K Q := by
 obtain ⟨v', w', hr, h2, h3, h4, h5⟩ := run_append_keeps (P := P) w base t o.type e i z size bytes ht hi hz hsize hby hzs hsz v n xs hown ad m c news hl hnews h1 h63 hbytes hbase
 unfold Oper.wp execOp
 simp only [ho, resolve, invoke, builtin, Sem.run_bind, Sem.run_pure, Result.andThen_ok, List.map_toArray, List.map_cons, List.map_nil, hs, hx, hr]
 exact h v' w' h2 h3 h4 h5
theorem zaL {ops : Array Oper} {rest : List Oper} {o : Oper} {a : Act} {Q : Exit -> Act -> World -> Prop} (hgd : o.guard = none) (s x : Operand) (t : TypeId)
 (ho : o.op = .call { callee := .builtin .append, args := #[s, x], argTypes := #[t, t] })
 (base : Nat) (e : TypeId) (i : TypeInfo) (z : Value) (size bytes : Nat) (ht : P.underlying t = some (.slice e)) (hi : P.info? e = some i) (hz : i.zero = some z)
 (hsize : i.size = size) (hby : i.bytes = bytes) (hzs : z.cells.size = size) (hsz : 0 < size)
 (v : Value) (n : Nat) (xs : List Value) (hs : a.eval s = v) (hown : w.ownsRow base e size v n xs)
 (ad : Addr) (m c : Nat) (news : List Value) (hx : a.eval x = .slice (some ad) m c) (hl : news.length = m * size) (hnews : ∀ j u, news[j]? = some u -> w.cell? (ad.add j) = some u) (h1 : ∀ u ∈ news, u.oneCell' = true)
 (h63 : n + m <= maxLen) (hbytes : (n + m) * bytes <= 140737488355328) (hbase : base <= w.heap.size)
 (h : ∀ v' w', w'.ownsRow base e size v' (n + m) (xs ++ news) -> w.grownBy w' v.ownBlock -> (v'.ownBlock = v.ownBlock \/ v'.ownBlock = some w.heap.size) -> (∀ b0 v0 n0 xs0, n0 <= n -> w.ownsRow b0 e size v0 n0 xs0 -> w'.ownsRow b0 e size v0 n0 xs0) -> wpList P ops Q rest (a.put o.dst v') w') : wpList P ops Q (o :: rest) a w :=
 wpList_plain hgd fun _ hK => wp_append_keeps w s x t ho base e i z size bytes ht hi hz hsize hby hzs hsz v n xs hs hown ad m c news hx hl hnews h1 h63 hbytes hbase fun v' w' h2 h3 h4 h5 => hK _ _ (h v' w' h2 h3 h4 h5)
end
end Go.Proofs.YtbcemjhaecelnaaGreatDoor
end
section
namespace Go.Proofs.YtbcemjhaecelnaaGreatDoor
open Go.RowKit
theorem zex : (Tryz.prog.info? 21).map (fun i => (i.zero, i.size, i.bytes)) = some (some (.int .i32 0), 1, 4) := by kernel_rfl
theorem zcc {w : World} {base : Nat} {e : TypeId} {size : Nat} {v : Value} {n : Nat} {xs : List Value} (h : w.ownsRow base e size v n xs) {k : Nat} (hk : k < base) (s : ByteArray) (p : Nat) : (w.iterAt k s p).ownsRow base e size v n xs := by
 obtain ⟨h1, h2⟩ := h
 refine ⟨h1, ?_⟩
 rcases h2 with h2 | ⟨g, cap, cur, a, b, c, d⟩
 ·exact .inl h2
 ·exact .inr ⟨g, cap, cur, a, b, by rw [Lib.iterAt_other _ _ _ _ _ (by omega)]; exact c, d⟩
theorem zi3 (w : World) (v : Value) (t : TypeId) : ∀ j u, [v][j]? = some u -> (w.alloc (.cells #[v] t)).cell? ((⟨w.heap.size, 0, none⟩ : Addr).add j) = some u := by
 intro j u hj
 match j, hj with
 | 0, hj => simp at hj; subst hj; simp [Addr.add]
 | j + 1, hj => simp at hj
theorem zh9 (x : Int) : ∀ v ∈ [Value.int .i32 x], v.oneCell' = true := by
 intro v hv; simp at hv; subst hv; rfl
def ziE (B : Nat) (xs : List Int) (e : Ending) (w' : World) : Prop := ∃ v, e = .returned v /\ w'.ownsRow B 21 1 v xs.length (xs.map (Value.int .i32))
theorem spell_any (s : ByteArray) (w : World) (hs : s.size <= 1099511627776) :
 Calls Tryz.prog 40 #[.string s] w fun e w' => ziE (w.heap.size + 1) (zai s.data.toList) e w' /\ Below w.heap.size w w' := by
 obtain ⟨i0, hi, hz0, hz1, hz2⟩ := info_parts zex
 go_enter Tryz.func40, Tryz.ntmps40
 go_wp2
 go_loopw [3] (fun v wr => ∃ (pos : Nat) (xs : List Int), wr.heap[w.heap.size]? = some (.stringIter s pos) /\ wr.ownsRow (w.heap.size + 1) 21 1 v xs.length (xs.map (Value.int .i32)) /\ Below w.heap.size w wr /\ Hid (xs ++ zai (s.data.toList.drop pos) = zai s.data.toList) /\ xs.length <= pos /\ pos <= s.size) (fun _ wr => s.size - wr.iterPos w.heap.size)
 case atStart => exact ⟨0, [], World.iter_heap w s 0, World.ownsRow_nil _ _ _ _, (Below.refl _ _).alloc (Nat.le_refl _) _, (by show _ = _; simp), by simp, Nat.zero_le _⟩
 case round =>
  obtain ⟨pos, xs, hit, hown, hbw, H, hk, hps⟩ := hrel
  have hpos0 := zac hit
  by_cases hp : pos < s.size
  ·have hnx : ∀ ty, (Instr.next (.pointer (some ⟨w.heap.size, 0, none⟩)) true ty).run Tryz.prog wr = _ := fun ty => Lib.run_next_any_at wr w.heap.size s pos ty hit hp
   have hwd := zbT s pos
   have hwl := zbm hp
   have hit2 := Lib.iterAt_heap wr w.heap.size s pos (pos + (Utf8.decode s pos).2) hit
   have hbw2 := Lib.below_iterAt hbw (k := w.heap.size) (Nat.le_refl _) s (pos + (Utf8.decode s pos).2)
   have hown2 := zcc hown (k := w.heap.size) (by omega) s (pos + (Utf8.decode s pos).2)
   have H2 : Hid ((xs ++ [((Utf8.decode s pos).1 : Int)]) ++ zai (s.data.toList.drop (pos + (Utf8.decode s pos).2)) = zai s.data.toList) := by
    show _ = _
    rw [<- H.out, zdm hp]; simp
   obtain ⟨W1, hW1⟩ : ∃ W1, W1 = wr.iterAt w.heap.size s (pos + (Utf8.decode s pos).2) := ⟨_, rfl⟩
   rw [<- hW1] at hnx hit2 hbw2 hown2
   have hBlt : w.heap.size < W1.heap.size := (Array.getElem?_eq_some_iff.1 hit2).1
   clear hW1 hit hown hbw H
   go_wp2_with (at_builtin; go_must (refine wpList_append_own _ rfl _ _ 74 rfl (w.heap.size + 1) 21 i0 (.int .i32 0) 1 4 Tryz.underlying74 hi hz0 hz1 hz2 rfl (by decide) _ _ _ rfl (hown2.alloc _) ⟨W1.heap.size, 0, none⟩ 1 1 [.int .i32 ((Utf8.decode s pos).1 : Int)] rfl rfl (zi3 _ _ _) (zh9 _) (by unfold maxLen; omega) (by omega) (by simp; omega) ?_); intro v' w3 hown' hgrow3 hnil3)
   have hit3 : w3.heap[w.heap.size]? = some (.stringIter s (pos + (Utf8.decode s pos).2)) := by
    rw [hgrow3.block w.heap.size (by simp; omega) (fun h => by have := (hown2.lt _ h.symm).1; omega), Below.heap_alloc _ _ _ hBlt]; exact hit2
   have hbw3 : Below w.heap.size w w3 := Below.grown (hbw2.alloc (by omega) _) hgrow3 (by simp; omega) (fun j hj => by have := (hown2.lt _ hj).1; omega)
   have ho3 : w3.ownsRow (w.heap.size + 1) 21 1 v' (xs ++ [((Utf8.decode s pos).1 : Int)]).length ((xs ++ [((Utf8.decode s pos).1 : Int)]).map (Value.int .i32)) := by
    rw [List.length_append, List.map_append]; exact hown'
   clear hown' hgrow3 hnil3
   go_roundw
   case rel => exact ⟨pos + (Utf8.decode s pos).2, xs ++ [((Utf8.decode s pos).1 : Int)], hit3, ho3, hbw3, H2, by rw [List.length_append]; simp; omega, hwl⟩
   case measure => rw [zac hit3, hpos0]; omega
  ·have hnx : ∀ ty, (Instr.next (.pointer (some ⟨w.heap.size, 0, none⟩)) true ty).run Tryz.prog wr = _ := fun ty => Lib.run_next_end_at wr w.heap.size s pos ty hit hp
   have H2 : Hid (xs = zai s.data.toList) := by
    show _ = _
    rw [<- H.out, zc1 hp]; simp
   clear H
   go_wp2
   go_ret
   refine ⟨?_, hbw⟩
   rw [<- H2.out]
   exact ⟨_, rfl, hown⟩
end Go.Proofs.YtbcemjhaecelnaaGreatDoor
end
section
namespace Go.Proofs.YtbcemjhaecelnaaGreatDoor.Pat
open Go.RowKit
structure SigAt (w : World) (b off : Nat) (l : List Sg) : Prop where
 low : b < w.heap.size
 at0 : ∀ (j : Nat) (x : Sg), l[j]? = some x -> w.cell? ⟨b, off + j * 2, none⟩ = some (.int .i32 x.1)
 at1 : ∀ (j : Nat) (x : Sg), l[j]? = some x -> w.cell? ⟨b, off + j * 2 + 1, none⟩ = some (.bool x.2)
theorem SigAt.kept {w w' : World} {b off : Nat} {l : List Sg} {bd : Nat} (h : SigAt w b off l) (hg : w.grownBy w' (some bd)) (hb : b ≠ bd) : SigAt w' b off l :=
 ⟨Nat.lt_of_lt_of_le h.low hg.size, fun j x hx => (World.cell?_of_block (a := ⟨b, off + j * 2, none⟩) (hg.block b h.low (by simpa using hb))).trans (h.at0 j x hx), fun j x hx => (World.cell?_of_block (a := ⟨b, off + j * 2 + 1, none⟩) (hg.block b h.low (by simpa using hb))).trans (h.at1 j x hx)⟩
theorem SigAt.tail {w : World} {b off : Nat} {s : Sg} {l : List Sg} (h : SigAt w b off (s :: l)) : SigAt w b (off + 2) l :=
 ⟨h.low, fun j x hx => by have := h.at0 (j + 1) x (by simpa using hx); rwa [show off + (j + 1) * 2 = off + 2 + j * 2 by omega] at this, fun j x hx => by have := h.at1 (j + 1) x (by simpa using hx); rwa [show off + (j + 1) * 2 + 1 = off + 2 + j * 2 + 1 by omega] at this⟩
def okR (r : Int) : Prop := (0 <= r /\ r < 55296) \/ (57343 < r /\ r <= 1114111)
def SigS (w : World) (bd : Nat) (v : Value) (l : List Sg) : Prop := ∃ o cap, v = .slice o l.length cap /\ l.length <= cap /\ (l.length <= 1000000 /\ ∀ s ∈ l, okR s.1) /\ (l = [] \/ ∃ b off, o = some ⟨b, off, none⟩ /\ b < bd /\ SigAt w b off l)
theorem SigS.kept {w w' : World} {bd : Nat} {v : Value} {l : List Sg} (h : SigS w bd v l) (hg : w.grownBy w' (some bd)) : SigS w' bd v l := by
 obtain ⟨o, cap, h1, h2, h3, h4⟩ := h
 exact ⟨o, cap, h1, h2, h3, h4.imp id fun ⟨b, off, e, hb, hs⟩ => ⟨b, off, e, hb, hs.kept hg (by omega)⟩⟩
def Rd (w : World) (bd : Nat) (l : List Sg) : Prop := ∃ v, w.heap[bd]? = some (.cells #[v] 233 (0, 0)) /\ SigS w bd v l
theorem Rd.lt {w : World} {bd : Nat} {l : List Sg} (h : Rd w bd l) : bd < w.heap.size := by
 obtain ⟨v, h, _⟩ := h; exact (Array.getElem?_eq_some_iff.1 h).1
theorem grown_of_below {w w' : World} (h : Below w.heap.size w w') (r : Option Nat) : w.grownBy w' r := ⟨h.os, h.tape, h.output, h.size, fun k hk _ => h.block k hk⟩
theorem grown_trans {a b c : World} {r : Option Nat} (h : a.grownBy b r) (k : b.grownBy c r) : a.grownBy c r :=
 ⟨k.os.trans h.os, k.tape.trans h.tape, k.output.trans h.output, Nat.le_trans h.size k.size, fun i hi hr => (k.block i (Nat.lt_of_lt_of_le hi h.size) hr).trans (h.block i hi hr)⟩
theorem Rd.ok {w : World} {bd : Nat} {l : List Sg} (h : Rd w bd l) : ∀ s ∈ l, okR s.1 := by
 obtain ⟨v, _, o, cap, _, _, hm, _⟩ := h; exact hm.2
theorem Rd.below {w w' : World} {bd : Nat} {l : List Sg} (h : Rd w bd l) (hb : Below w.heap.size w w') : Rd w' bd l := by
 have hl := h.lt
 obtain ⟨v, h1, h2⟩ := h
 exact ⟨v, (hb.block bd hl).trans h1, h2.kept (grown_of_below hb _)⟩
theorem SigAt.keep {w w' : World} {b off : Nat} {l : List Sg} (h : SigAt w b off l) (hb : w'.heap[b]? = w.heap[b]?) : SigAt w' b off l :=
 ⟨(Array.getElem?_eq_some_iff.1 (hb.trans (Array.getElem?_eq_getElem h.low))).1, fun j x hx => (World.cell?_of_block (a := ⟨b, off + j * 2, none⟩) hb).trans (h.at0 j x hx), fun j x hx => (World.cell?_of_block (a := ⟨b, off + j * 2 + 1, none⟩) hb).trans (h.at1 j x hx)⟩
theorem Rd.keep {w w' : World} {bd : Nat} {l : List Sg} (h : Rd w bd l) (hb : ∀ k, k <= bd -> w'.heap[k]? = w.heap[k]?) : Rd w' bd l := by
 obtain ⟨v, h1, o, cap, e, hc, hm, h2⟩ := h
 exact ⟨v, (hb bd (Nat.le_refl _)).trans h1, o, cap, e, hc, hm, h2.imp id fun ⟨b, off, e, hl, hs⟩ => ⟨b, off, e, hl, hs.keep (hb b (Nat.le_of_lt hl))⟩⟩
theorem grown_refl (w : World) (r : Option Nat) : w.grownBy w r := ⟨rfl, rfl, rfl, Nat.le_refl _, fun _ _ _ => rfl⟩
theorem grown_set (w : World) (bd i : Nat) (u : Value) : w.grownBy (w.setCell ⟨bd, i, none⟩ u) (some bd) :=
 ⟨rfl, rfl, rfl, by simp [World.setCell], fun k _ hk => heap_setCell_other w ⟨bd, i, none⟩ k u (fun e => hk (by simp [e]))⟩
theorem grown_setNew {a b : World} {r : Option Nat} (h : a.grownBy b r) {k : Nat} (hk : a.heap.size <= k) (i : Nat) (u : Value) : a.grownBy (b.setCell ⟨k, i, none⟩ u) r :=
 ⟨h.os, h.tape, h.output, by simpa [World.setCell] using h.size, fun j hj hr => (heap_setCell_other b ⟨k, i, none⟩ j u (fun e => by have e2 : j = k := e; omega)).trans (h.block j hj hr)⟩
theorem Rd.setNew {w : World} {bd : Nat} {l : List Sg} (h : Rd w bd l) {k : Nat} (hk : bd < k) (i : Nat) (u : Value) : Rd (w.setCell ⟨k, i, none⟩ u) bd l :=
 h.keep fun j hj => heap_setCell_other w ⟨k, i, none⟩ j u (fun e => by have e2 : j = k := e; omega)
theorem grown_alloc {a b : World} {r : Option Nat} (h : a.grownBy b r) (o : Obj) : a.grownBy (b.alloc o) r := grown_trans h (World.grownBy_alloc _ _ _)
theorem Rd.alloc {w : World} {bd : Nat} {l : List Sg} (h : Rd w bd l) (o : Obj) : Rd (w.alloc o) bd l := h.below ((Below.refl _ _).alloc (Nat.le_refl _) _)
theorem Rd.set {w : World} {bd n cap b off : Nat} {v : Value} {l : List Sg} (h1 : w.heap[bd]? = some (.cells #[v] 233 (0, 0))) (hb : b < bd) (hs : SigAt w b off l) (hn : l.length = n) (hc : n <= cap) (hm : n <= 1000000 /\ ∀ s ∈ l, okR s.1) :
 Rd (w.setCell ⟨bd, 0, none⟩ (.slice (some ⟨b, off, none⟩) n cap)) bd l := by
 subst hn
 exact ⟨_, one_setCell h1, _, cap, rfl, hc, hm, .inr ⟨b, off, rfl, hb, hs.kept (grown_set w bd 0 _) (by omega)⟩⟩
theorem Rd.set0 {w : World} {bd n cap : Nat} {o : Option Addr} {v : Value} (h1 : w.heap[bd]? = some (.cells #[v] 233 (0, 0))) (hn : n = 0) : Rd (w.setCell ⟨bd, 0, none⟩ (.slice o n cap)) bd [] := by
 subst hn
 exact ⟨_, one_setCell h1, _, cap, rfl, Nat.zero_le _, ⟨Nat.zero_le _, fun s hs => by simp at hs⟩, .inl rfl⟩
theorem at_any (bd : Nat) (l : List Sg) (r : Int) (w : World) (h : Rd w bd l) :
 Calls Tryz.prog 189 #[.pointer (some ⟨bd, 0, none⟩), .int .i32 r] w fun e w' => e = .returned (.bool (atB l r)) /\ w = w' := by
 obtain ⟨v, h1, o, cap, rfl, hc, ⟨hm, _⟩, h2⟩ := h
 have hcell : w.cell? ⟨bd, 0, none⟩ = some (.slice o l.length cap) := by simp [World.cell?, h1]
 cases l with
 | nil =>
   have HC := zh hcell
   clear h1 h2 hc hm hcell
   have hcell : w.cell? ⟨bd, 0, none⟩ = some (.slice o 0 cap) := HC.out
   go_enter Tryz.func189, Tryz.ntmps189
   go_wp2
   go_ret
   exact ⟨rfl, rfl⟩
 | cons s t =>
   rcases h2 with h2 | ⟨b, off, rfl, hb, hs⟩
   ·cases h2
   have c0 := hs.at0 0 s rfl
   have c1 := hs.at1 0 s rfl
   simp only [Nat.zero_mul, Nat.add_zero] at c0 c1
   obtain ⟨n, hn⟩ : ∃ n, (s :: t).length = n := ⟨_, rfl⟩
   rw [hn] at hcell hm
   have h0 : 0 < n := by rw [<- hn]; simp
   have i0 : (0 : Int) < n := by omega
   clear hn hs h1 hc hb
   go_enter Tryz.func189, Tryz.ntmps189
   go_wp2
   all_goals
    go_ret
    exact ⟨zaY (by simp [atB, *]), rfl⟩
theorem zdb (bd : Nat) (l : List Sg) (r : Int) (b : Bool) (hb : atB l r = b) (w : World) (h : Rd w bd l) :
 Calls Tryz.prog 189 #[.pointer (some ⟨bd, 0, none⟩), .int .i32 r] w fun e w' => e = .returned (.bool b) /\ w = w' := by
 rw [<- hb]; exact at_any bd l r w h
theorem next_any (bd : Nat) (s : Sg) (t : List Sg) (w : World) (h : Rd w bd (s :: t)) :
 Calls Tryz.prog 192 #[.pointer (some ⟨bd, 0, none⟩)] w fun e w' => e = .returned (.agg #[.int .i32 s.1, .bool s.2]) /\ Rd w' bd t /\ w.grownBy w' (some bd) := by
 have hlt := h.lt
 obtain ⟨v, h1, o, cap, rfl, hc, ⟨hm, hok⟩, h2⟩ := h
 have HOK := zh (fun x (hx : x ∈ t) => hok x (List.mem_cons_of_mem _ hx))
 clear hok
 have hcell : w.cell? ⟨bd, 0, none⟩ = some (.slice o (s :: t).length cap) := by simp [World.cell?, h1]
 have hfr : w.frozen? ⟨bd, 0, none⟩ = false := by simp [World.frozen?, h1]
 rcases h2 with h2 | ⟨b, off, rfl, hb, hs⟩
 ·cases h2
 have hbl := hs.low
 have c0 := hs.at0 0 s rfl
 have c1 := hs.at1 0 s rfl
 simp only [Nat.zero_mul, Nat.add_zero] at c0 c1
 obtain ⟨n, hn⟩ : ∃ n, (s :: t).length = n := ⟨_, rfl⟩
 rw [hn] at hcell hm hc
 have h0 : 0 < n := by rw [<- hn]; simp
 have i0 : (0 : Int) < n := by omega
 have i1 : (1 : Int) <= n := by omega
 have HN := zh hn
 have HS := zh hs.tail
 have H1 := zh h1
 clear hn hs h1
 have HR := zh (fun (a c : Nat) (ha : a = off + 2) (h2 : t.length = n - 1) (h3 : n - 1 <= c) => (Rd.set H1.out hb (by rw [ha]; exact HS.out) h2 h3 ⟨by omega, HOK.out⟩ : Rd (w.setCell ⟨bd, 0, none⟩ (.slice (some ⟨b, a, none⟩) (n - 1) c)) bd t))
 go_enter Tryz.func192, Tryz.ntmps192
 go_wp2
 ·have ht : t = [] := by
   have := HN.out; simp at this
   cases t with
   | nil => rfl
   | cons x y => simp at this; omega
  subst ht
  refine bodyPost_ret (v := .agg #[.int .i32 s.1, .bool s.2]) (by simp [results, Tryz.results192, go_sem]) rfl ⟨rfl, ?_, grown_alloc (grown_alloc (grown_set _ _ _ _) _) _⟩
  exact ((Rd.set0 H1.out (by omega)).alloc _).alloc _
 ·refine bodyPost_ret (v := .agg #[.int .i32 s.1, .bool s.2]) (by simp [results, Tryz.results192, go_sem]) rfl ⟨rfl, ?_, grown_alloc (grown_alloc (grown_set _ _ _ _) _) _⟩
  exact ((HR.out _ _ rfl (by have := HN.out; simp at this; omega) (by omega)).alloc _).alloc _
theorem take_yes (bd : Nat) (l : List Sg) (r : Int) (w : World) (h : Rd w bd l) (hb : atB l r = true) :
 Calls Tryz.prog 186 #[.pointer (some ⟨bd, 0, none⟩), .int .i32 r] w fun e w' => e = .returned (.bool true) /\ Rd w' bd l.tail /\ w.grownBy w' (some bd) := by
 have HA := zh (zdb bd l r true hb w h)
 cases l with
 | nil => simp [atB] at hb
 | cons s t =>
   have HN := zh (next_any bd s t w h)
   clear h hb
   go_enter Tryz.func186, Tryz.ntmps186
   go_wp2_with fail
   refine HA.out.mono ?_
   rintro e w' ⟨rfl, rfl⟩
   go_wp2_with fail
   refine HN.out.mono ?_
   rintro e w' ⟨rfl, hr, hg⟩
   have HR := zh hr
   have HG := zh hg
   clear hr hg
   go_wp2
   go_ret
   exact ⟨rfl, HR.out, HG.out⟩
theorem take_no (bd : Nat) (l : List Sg) (r : Int) (w : World) (h : Rd w bd l) (hb : atB l r = false) :
 Calls Tryz.prog 186 #[.pointer (some ⟨bd, 0, none⟩), .int .i32 r] w fun e w' => e = .returned (.bool false) /\ w = w' := by
 have HA := zh (zdb bd l r false hb w h)
 clear h hb
 go_enter Tryz.func186, Tryz.ntmps186
 go_wp2_with fail
 refine HA.out.mono ?_
 rintro e w' ⟨rfl, rfl⟩
 go_wp2
 go_ret
 exact ⟨rfl, rfl⟩
theorem take_any (bd : Nat) (l : List Sg) (r : Int) (w : World) (h : Rd w bd l) :
 Calls Tryz.prog 186 #[.pointer (some ⟨bd, 0, none⟩), .int .i32 r] w fun e w' => e = .returned (.bool (atB l r)) /\ Rd w' bd (zeJ l r) /\ w.grownBy w' (some bd) := by
 cases hb : atB l r with
 | true => exact (take_yes bd l r w h hb).mono fun e w' q => ⟨q.1, by unfold zeJ; rw [hb]; exact q.2.1, q.2.2⟩
 | false => exact (take_no bd l r w h hb).mono fun e w' q => ⟨q.1, by obtain ⟨_, rfl⟩ := q; unfold zeJ; rw [hb]; exact ⟨h, grown_refl _ _⟩⟩
end Go.Proofs.YtbcemjhaecelnaaGreatDoor.Pat
end
section
namespace Go.Proofs.YtbcemjhaecelnaaGreatDoor.Pat
open Go.RowKit
theorem Rd.kept {w w' : World} {bd : Nat} {l : List Sg} (h : Rd w bd l) (hb : Below w.heap.size w w') : Rd w' bd l := h.below hb
theorem Rd.cell {w : World} {bd : Nat} {l : List Sg} (h : Rd w bd l) : ∃ o cap, w.cell? ⟨bd, 0, none⟩ = some (.slice o l.length cap) /\ l.length <= 1000000 /\ w.frozen? ⟨bd, 0, none⟩ = false /\ (l = [] \/ ∃ b off, o = some ⟨b, off, none⟩ /\ SigAt w b off l) := by
 obtain ⟨v, h1, o, cap, rfl, hc, hm, h2⟩ := h
 exact ⟨o, cap, by simp [World.cell?, h1], hm.1, by simp [World.frozen?, h1], h2.imp id fun ⟨b, off, e, _, hs⟩ => ⟨b, off, e, hs⟩⟩
theorem zg8 (a b : Value) (W : World) : (Instr.field 247 (.agg #[a, b]) 0).run Tryz.prog W = .ok a W := by kernel_rfl
def Box (w : World) (k : Nat) (a b : Value) (t : TypeId) : Prop := w.heap[k]? = some (.cells #[a, b] t (0, 0))
theorem Box.reads {w : World} {k : Nat} {a b : Value} {t : TypeId} (h : Box w k a b t) : w.cell? ⟨k, 0, none⟩ = some a /\ w.cell? ⟨k, 1, none⟩ = some b /\ w.frozen? ⟨k, 0, none⟩ = false /\ w.frozen? ⟨k, 1, none⟩ = false := by
 unfold Box at h
 refine ⟨?_, ?_, ?_, ?_⟩ <;> simp [World.cell?, World.frozen?, h]
theorem zey (bd k : Nat) (a b : Value) (ty : TypeId) (s : Sg) (t : List Sg) (w0 w : World) (h : Rd w bd (s :: t)) (hg : w0.grownBy w (some bd)) (hk : bd < k) (hb : Box w k a b ty) :
 Calls Tryz.prog 192 #[.pointer (some ⟨bd, 0, none⟩)] w fun e w' => e = .returned (.agg #[.int .i32 s.1, .bool s.2]) /\ Hid (Rd w' bd t /\ w0.grownBy w' (some bd) /\ Box w' k a b ty) :=
 (next_any bd s t w h).mono fun _ _ q => ⟨q.1, q.2.1, grown_trans hg q.2.2, (q.2.2.block k (Array.getElem?_eq_some_iff.1 hb).1 (by simp; omega)).trans hb⟩
theorem item_any (bd : Nat) (s : Sg) (t : List Sg) (w : World) (h : Rd w bd (s :: t)) :
 Calls Tryz.prog 195 #[.pointer (some ⟨bd, 0, none⟩)] w fun e w' => e = .returned (.agg #[.int .i32 (zbN (s :: t)).1.1, .int .i32 (zbN (s :: t)).1.2]) /\ Rd w' bd (zbN (s :: t)).2 /\ w.grownBy w' (some bd) := by
 have hlt := h.lt
 have hbox : Box (w.alloc (.cells #[.int .i32 0, .int .i32 0] 260)) w.heap.size (.int .i32 0) (.int .i32 0) 260 := Array.getElem?_push_size
 have HNE := zh (zey bd w.heap.size _ _ _ s t w _ (h.alloc (.cells #[.int .i32 0, .int .i32 0] 260)) (grown_alloc (grown_refl _ _) _) hlt hbox)
 clear h hbox
 cases hat : atB t 45 with
 | false =>
   have HAT := zh hat
   have HI := zh (show zbN (s :: t) = ((s.1, s.1), t) by unfold zbN; dsimp only; rw [hat]; rfl)
   clear hat
   have hf := zg8
   go_enter Tryz.func195, Tryz.ntmps195
   go_wp2_with fail
   refine HNE.out.mono ?_
   rintro e w1 ⟨rfl, H1⟩
   obtain ⟨r0, r1, f0, f1⟩ := H1.out.2.2.reads
   go_wp2_with fail
   refine (zdb bd t 45 false HAT.out _ H1.out.1).mono ?_
   rintro e w2 ⟨rfl, rfl⟩
   go_wp2
   rw [HI.out]
   refine bodyPost_ret (v := .agg #[.int .i32 s.1, .int .i32 s.1]) (by simp [results, Tryz.results195, go_sem, r0, r1]) rfl ⟨rfl, (H1.out.1.setNew hlt _ _).setNew hlt _ _, grown_setNew (grown_setNew H1.out.2.1 (Nat.le_refl _) _ _) (Nat.le_refl _) _ _⟩
 | true =>
   cases t with
   | nil => simp [atB] at hat
   | cons s1 t1 =>
     have HAT := zh hat
     clear hat
     cases t1 with
     | nil =>
       have HI := zh (show zbN [s, s1] = ((s.1, s.1), [s1]) by simp [zbN])
       have hf := zg8
       go_enter Tryz.func195, Tryz.ntmps195
       go_wp2_with fail
       refine HNE.out.mono ?_
       rintro e w1 ⟨rfl, H1⟩
       obtain ⟨r0, r1, f0, f1⟩ := H1.out.2.2.reads
       obtain ⟨o, cap, hcell, _, _, _⟩ := H1.out.1.cell
       replace hcell : w1.cell? ⟨bd, 0, none⟩ = some (.slice o 1 cap) := hcell
       go_wp2_with fail
       refine (zdb bd [s1] 45 true HAT.out _ H1.out.1).mono ?_
       rintro e w2 ⟨rfl, rfl⟩
       go_wp2
       rw [HI.out]
       refine bodyPost_ret (v := .agg #[.int .i32 s.1, .int .i32 s.1]) (by simp [results, Tryz.results195, go_sem, r0, r1]) rfl ⟨rfl, (H1.out.1.setNew hlt _ _).setNew hlt _ _, grown_setNew (grown_setNew H1.out.2.1 (Nat.le_refl _) _ _) (Nat.le_refl _) _ _⟩
     | cons s2 t2 =>
       obtain ⟨x, hx⟩ : ∃ x, atB (s2 :: t2) 93 = x := ⟨_, rfl⟩
       have hx2 := hx
       simp only [atB] at hx2
       have HI := zh (show zbN (s :: s1 :: s2 :: t2) = if x then ((s.1, s.1), s1 :: s2 :: t2) else ((s.1, s2.1), t2) by
        have := HAT.out
        simp only [zbN, this]
        simp [hx]
        cases x <;> simp)
       have hf := zg8
       obtain ⟨n, hn⟩ : ∃ n, (s1 :: s2 :: t2).length = n := ⟨_, rfl⟩
       have h2n : 2 <= n := by rw [<- hn]; simp
       have i2 : (2 : Int) <= n := by omega
       have i1 : (1 : Int) < n := by omega
       have HN := zh hn
       clear hn hx
       cases x with
       | true =>
         have HX : s2.1 = 93 /\ s2.2 = true := by simpa using hx2
         obtain ⟨x1, x2⟩ := HX
         have X1 := zh x1
         have X2 := zh x2
         clear hx2 x1 x2
         go_enter Tryz.func195, Tryz.ntmps195
         go_wp2_with fail
         refine HNE.out.mono ?_
         rintro e w1 ⟨rfl, H1⟩
         obtain ⟨r0, r1, f0, f1⟩ := H1.out.2.2.reads
         obtain ⟨o, cap, hcell, hm, _, h2⟩ := H1.out.1.cell
         rcases h2 with h2 | ⟨b, off, rfl, hs⟩
         ·cases h2
         have c0 := hs.at0 1 s2 rfl
         have c1 := hs.at1 1 s2 rfl
         simp only [Nat.one_mul] at c0 c1
         rw [X1.out] at c0
         rw [X2.out] at c1
         rw [HN.out] at hcell hm
         clear hs
         go_wp2_with fail
         refine (zdb bd _ 45 true HAT.out _ H1.out.1).mono ?_
         rintro e w2 ⟨rfl, rfl⟩
         go_wp2
         rw [HI.out]
         refine bodyPost_ret (v := .agg #[.int .i32 s.1, .int .i32 s.1]) (by simp [results, Tryz.results195, go_sem, r0, r1]) rfl ⟨rfl, (H1.out.1.setNew hlt _ _).setNew hlt _ _, grown_setNew (grown_setNew H1.out.2.1 (Nat.le_refl _) _ _) (Nat.le_refl _) _ _⟩
       | false =>
         have HX := zh hx2
         clear hx2
         go_enter Tryz.func195, Tryz.ntmps195
         go_wp2_with fail
         refine HNE.out.mono ?_
         rintro e w1 ⟨rfl, H1⟩
         obtain ⟨o, cap, hcell, hm, _, h2⟩ := H1.out.1.cell
         rcases h2 with h2 | ⟨b, off, rfl, hs⟩
         ·cases h2
         have c0 := hs.at0 1 s2 rfl
         have c1 := hs.at1 1 s2 rfl
         simp only [Nat.one_mul] at c0 c1
         rw [HN.out] at hcell hm
         clear hs
         obtain ⟨y1, hy1⟩ : ∃ y, s2.1 = y := ⟨_, rfl⟩
         obtain ⟨y2, hy2⟩ : ∃ y, s2.2 = y := ⟨_, rfl⟩
         have HXY := zh (show (y1 == 93 && y2) = false by rw [<- hy1, <- hy2]; exact HX.out)
         rw [hy1] at c0
         rw [hy2] at c1
         have HY1 := zh hy1
         clear hy1 hy2 HX
         rcases (show (y1 == 93) = false \/ (y1 = 93 /\ y2 = false) by
          have := HXY.out
          cases h : (y1 == 93) with
          | false => exact .inl rfl
          | true => rw [h] at this; exact .inr ⟨by simpa using h, by simpa using this⟩) with hy | ⟨rfl, rfl⟩
         all_goals
          go_wp2_with fail
          refine (zdb bd _ 45 true HAT.out _ H1.out.1).mono ?_
          rintro e w2 ⟨rfl, rfl⟩
          go_wp2_with fail
          refine (zey bd w.heap.size _ _ _ s1 (s2 :: t2) w w1 H1.out.1 H1.out.2.1 hlt H1.out.2.2).mono ?_
          clear c0 c1 hcell
          rintro e w2 ⟨rfl, H2⟩
          go_wp2_with fail
          refine (zey bd w.heap.size _ _ _ s2 t2 w w2 H2.out.1 H2.out.2.1 hlt H2.out.2.2).mono ?_
          rintro e w3 ⟨rfl, H3⟩
          obtain ⟨r0, r1, f0, f1⟩ := H3.out.2.2.reads
          go_wp2
          rw [HI.out]
          refine bodyPost_ret (v := .agg #[.int .i32 s.1, .int .i32 s2.1]) (by simp [results, Tryz.results195, go_sem, r0, r1]) rfl ⟨rfl, (H3.out.1.setNew hlt _ _).setNew hlt _ _, grown_setNew (grown_setNew H3.out.2.1 (Nat.le_refl _) _ _) (Nat.le_refl _) _ _⟩
end Go.Proofs.YtbcemjhaecelnaaGreatDoor.Pat
end
section
namespace Go.Proofs.YtbcemjhaecelnaaGreatDoor.Pat
open Go.RowKit
def zg9 (w : World) (P : Nat -> Prop) (o : Option Addr) (vs : List Value) : Prop := vs = [] \/ ∃ b off, o = some ⟨b, off, none⟩ /\ P b /\ b < w.heap.size /\ ∀ (j : Nat) v, vs[j]? = some v -> w.cell? ⟨b, off + j, none⟩ = some v
def zhA (w : World) (P : Nat -> Prop) (o : Option Addr) (xs : List (Int × Int)) : Prop := xs = [] \/ ∃ b off, o = some ⟨b, off, none⟩ /\ P b /\ b < w.heap.size /\ ∀ (j : Nat) x, xs[j]? = some x -> w.cell? ⟨b, off + j * 2, none⟩ = some (.int .i32 x.1) /\ w.cell? ⟨b, off + j * 2 + 1, none⟩ = some (.int .i32 x.2)
inductive Tree (w : World) (P : Nat -> Prop) : Value -> Pt -> Prop
 | only (r : Int) : Tree w P (.iface 254 (.int .i32 r)) (.only r)
 | dot : Tree w P (.iface 253 (.agg #[])) .dot
 | cls (neg : Bool) (o : Option Addr) (n cap : Nat) (xs : List (Int × Int)) (hn : xs.length = n) (hm : n <= 2000000) (h : zhA w P o xs) : Tree w P (.iface 258 (.agg #[.bool neg, .slice o n cap])) (.cls neg xs)
 | times (v : Value) (x : Pt) (a b : Bool) (h : Tree w P v x) : Tree w P (.iface 243 (.agg #[v, .bool a, .bool b])) (.times x a b)
 | choice (o : Option Addr) (n cap : Nat) (vs : List Value) (l : List Pt) (hn : vs.length = n) (hl : l.length = n) (hm : n <= 2000000) (h : zg9 w P o vs) (ht : ∀ (j : Nat) v x, vs[j]? = some v -> l[j]? = some x -> Tree w P v x) : Tree w P (.iface 236 (.slice o n cap)) (.choice l)
 | chain (o : Option Addr) (n cap : Nat) (vs : List Value) (l : List Pt) (hn : vs.length = n) (hl : l.length = n) (hm : n <= 2000000) (h : zg9 w P o vs) (ht : ∀ (j : Nat) v x, vs[j]? = some v -> l[j]? = some x -> Tree w P v x) : Tree w P (.iface 239 (.slice o n cap)) (.chain l)
theorem lt_keep {w w' : World} {b : Nat} (hl : b < w.heap.size) (h : w'.heap[b]? = w.heap[b]?) : b < w'.heap.size := (Array.getElem?_eq_some_iff.1 (h.trans (Array.getElem?_eq_getElem hl))).1
theorem zg9.keep {w w' : World} {P Q : Nat -> Prop} {o : Option Addr} {vs : List Value} (h : zg9 w P o vs) (hk : ∀ b, P b -> b < w.heap.size -> w'.heap[b]? = w.heap[b]? /\ Q b) : zg9 w' Q o vs :=
 h.imp id fun ⟨b, off, e, hp, hl, hs⟩ => ⟨b, off, e, (hk b hp hl).2, lt_keep hl (hk b hp hl).1, fun j v hv => (World.cell?_of_block (a := ⟨b, off + j, none⟩) (hk b hp hl).1).trans (hs j v hv)⟩
theorem zhA.keep {w w' : World} {P Q : Nat -> Prop} {o : Option Addr} {xs : List (Int × Int)} (h : zhA w P o xs) (hk : ∀ b, P b -> b < w.heap.size -> w'.heap[b]? = w.heap[b]? /\ Q b) : zhA w' Q o xs :=
 h.imp id fun ⟨b, off, e, hp, hl, hs⟩ => ⟨b, off, e, (hk b hp hl).2, lt_keep hl (hk b hp hl).1, fun j x hx => ⟨(World.cell?_of_block (a := ⟨b, off + j * 2, none⟩) (hk b hp hl).1).trans (hs j x hx).1, (World.cell?_of_block (a := ⟨b, off + j * 2 + 1, none⟩) (hk b hp hl).1).trans (hs j x hx).2⟩⟩
theorem Tree.keep {w w' : World} {P Q : Nat -> Prop} {v : Value} {x : Pt} (h : Tree w P v x) (hk : ∀ b, P b -> b < w.heap.size -> w'.heap[b]? = w.heap[b]? /\ Q b) : Tree w' Q v x := by
 induction h with
 | only r => exact .only r
 | dot => exact .dot
 | cls neg o n cap xs hn hm h => exact .cls neg o n cap xs hn hm (h.keep hk)
 | times v x a b _ ih => exact .times v x a b ih
 | choice o n cap vs l hn hl hm h _ ih => exact .choice o n cap vs l hn hl hm (h.keep hk) ih
 | chain o n cap vs l hn hl hm h _ ih => exact .chain o n cap vs l hn hl hm (h.keep hk) ih
theorem Tree.grown {w w' : World} {P : Nat -> Prop} {v : Value} {x : Pt} {bd : Nat} (h : Tree w P v x) (hg : w.grownBy w' (some bd)) (hP : ∀ b, P b -> b ≠ bd) : Tree w' P v x :=
 h.keep fun b hp hl => ⟨hg.block b hl (by simpa using hP b hp), hp⟩
theorem Tree.iface {w : World} {P : Nat -> Prop} {v : Value} {x : Pt} (h : Tree w P v x) : ∃ t u, v = .iface t u := by
 cases h <;> exact ⟨_, _, rfl⟩
theorem times_any (bd : Nat) (l : List Sg) (v : Value) (x : Pt) (P : Nat -> Prop) (w : World) (h : Rd w bd l) (ht : Tree w P v x) (hP : ∀ b, P b -> b ≠ bd) :
 Calls Tryz.prog 191 #[.pointer (some ⟨bd, 0, none⟩), v] w fun e w' => (∃ u, e = .returned u /\ Tree w' P u (timesF x l)) /\ Rd w' bd (zbs l) /\ w.grownBy w' (some bd) := by
 obtain ⟨t, u, rfl⟩ := ht.iface
 have HR := zh h
 have HT := zh ht
 have HP := zh hP
 clear h ht hP
 cases h1 : atB l 42 with
 | true =>
   have HF := zh (show timesF x l = .times x true true /\ zbs l = l.tail by unfold timesF zbs; rw [h1]; exact ⟨rfl, rfl⟩)
   have H1 := zh h1
   clear h1
   go_enter Tryz.func191, Tryz.ntmps191
   go_wp2_with fail
   refine (take_yes bd l 42 w HR.out H1.out).mono ?_
   rintro e w1 ⟨rfl, hr, hg⟩
   have HR1 := zh hr
   have HG1 := zh hg
   clear hr hg
   go_wp2
   go_ret
   rw [HF.out.1, HF.out.2]
   exact ⟨⟨_, rfl, .times _ x true true (HT.out.grown HG1.out HP.out)⟩, HR1.out, HG1.out⟩
 | false =>
   cases h2 : atB l 43 with
   | true =>
     have HF := zh (show timesF x l = .times x false true /\ zbs l = l.tail by unfold timesF zbs; rw [h1, h2]; exact ⟨rfl, rfl⟩)
     have H1 := zh h1
     have H2 := zh h2
     clear h1 h2
     go_enter Tryz.func191, Tryz.ntmps191
     go_wp2_with fail
     refine (take_no bd l 42 w HR.out H1.out).mono ?_
     rintro e w1 ⟨rfl, rfl⟩
     go_wp2_with fail
     refine (take_yes bd l 43 w HR.out H2.out).mono ?_
     rintro e w1 ⟨rfl, hr, hg⟩
     have HR1 := zh hr
     have HG1 := zh hg
     clear hr hg
     go_wp2
     go_ret
     rw [HF.out.1, HF.out.2]
     exact ⟨⟨_, rfl, .times _ x false true (HT.out.grown HG1.out HP.out)⟩, HR1.out, HG1.out⟩
   | false =>
     cases h3 : atB l 63 with
     | true =>
       have HF := zh (show timesF x l = .times x true false /\ zbs l = l.tail by unfold timesF zbs; rw [h1, h2, h3]; exact ⟨rfl, rfl⟩)
       have H1 := zh h1
       have H2 := zh h2
       have H3 := zh h3
       clear h1 h2 h3
       go_enter Tryz.func191, Tryz.ntmps191
       go_wp2_with fail
       refine (take_no bd l 42 w HR.out H1.out).mono ?_
       rintro e w1 ⟨rfl, rfl⟩
       go_wp2_with fail
       refine (take_no bd l 43 w HR.out H2.out).mono ?_
       rintro e w1 ⟨rfl, rfl⟩
       go_wp2_with fail
       refine (take_yes bd l 63 w HR.out H3.out).mono ?_
       rintro e w1 ⟨rfl, hr, hg⟩
       have HR1 := zh hr
       have HG1 := zh hg
       clear hr hg
       go_wp2
       go_ret
       rw [HF.out.1, HF.out.2]
       exact ⟨⟨_, rfl, .times _ x true false (HT.out.grown HG1.out HP.out)⟩, HR1.out, HG1.out⟩
     | false =>
       have HF := zh (show timesF x l = x /\ zbs l = l by unfold timesF zbs; rw [h1, h2, h3]; exact ⟨rfl, rfl⟩)
       have H1 := zh h1
       have H2 := zh h2
       have H3 := zh h3
       clear h1 h2 h3
       go_enter Tryz.func191, Tryz.ntmps191
       go_wp2_with fail
       refine (take_no bd l 42 w HR.out H1.out).mono ?_
       rintro e w1 ⟨rfl, rfl⟩
       go_wp2_with fail
       refine (take_no bd l 43 w HR.out H2.out).mono ?_
       rintro e w1 ⟨rfl, rfl⟩
       go_wp2_with fail
       refine (take_no bd l 63 w HR.out H3.out).mono ?_
       rintro e w1 ⟨rfl, rfl⟩
       go_wp2
       go_ret
       rw [HF.out.1, HF.out.2]
       exact ⟨⟨_, rfl, HT.out⟩, HR.out, grown_refl _ _⟩
end Go.Proofs.YtbcemjhaecelnaaGreatDoor.Pat
end
end
