import Derived.Test.YtbcemjhaecelnaaGreatDoorMg00
import Derived.Lib.MapLaws
import Derived.Test.YtbcemjhaecelnaaGreatDoorProg
import Derived.WalkKit
import Derived.BigCall
import Derived.Lib.OthersKept
import Derived.Lib.Hide
import Derived.Lib.RuneBytes
import Derived.Test.YtbcemjhaecelnaaGreatDoorMg01
section
set_option maxHeartbeats 4000000
set_option maxRecDepth 100000
section
namespace Go.Proofs.YtbcemjhaecelnaaGreatDoor
open Go.Lib
theorem zdk (l : List UInt8) (k i : Nat) : (l.take k).getD i 0 = if i < k then l.getD i 0 else 0 := by
 simp only [List.getD, List.getElem?_take]; split <;> rfl
theorem zb1 (l u : List UInt8) (i : Nat) (h : i < l.length) : (l ++ u).getD i 0 = l.getD i 0 := by
 simp [List.getD, List.getElem?_append_left h]
theorem decodeN_inj_take (n k b0 b1 b2 b3 : Nat) (h0 : b0 < 256) (h1 : b1 < 256) (_h2 : b2 < 256) (_h3 : b3 < 256) (hk1 : 1 <= k) (hn : 1 <= n) (hk : (decodeN n b0 b1 b2 b3).2 <= k) :
 decodeN (min k n) b0 (if 1 < k then b1 else 0) (if 2 < k then b2 else 0) (if 3 < k then b3 else 0) = decodeN n b0 b1 b2 b3 := by
 rcases decodeN_shape n b0 b1 b2 b3 with ⟨c, e⟩ | ⟨c1, c2, c3, cv, e⟩ | ⟨c1, c2, c3, c4, cv, cs, e⟩ | ⟨c1, c2, c3, c4, c5, cv, cw, e⟩ | e
 ·rw [e]; unfold decodeN; rw [if_pos c]
 ·rw [e] at hk ⊢; dsimp only at hk
  rw [if_pos (by omega)]
  unfold decodeN
  rw [if_neg (by omega), if_pos ⟨c1, by omega, c3⟩, if_pos (by omega)]
 ·rw [e] at hk ⊢; dsimp only at hk
  rw [if_pos (by omega), if_pos (by omega)]
  unfold decodeN
  rw [if_neg (by omega), if_neg (by omega), if_pos ⟨c1, ⟨by omega, c3⟩, by omega, c4⟩, if_pos (by omega)]
 ·rw [e] at hk ⊢; dsimp only at hk
  rw [if_pos (by omega), if_pos (by omega), if_pos (by omega)]
  unfold decodeN
  rw [if_neg (by omega), if_neg (by omega), if_neg (by omega), if_pos ⟨c1, ⟨by omega, c3⟩, ⟨by omega, c4⟩, by omega, c5⟩, if_pos (by omega)]
 ·rw [e]
  rcases decodeN_shape (min k n) b0 (if 1 < k then b1 else 0) (if 2 < k then b2 else 0) (if 3 < k then b3 else 0) with ⟨c, e'⟩ | ⟨c1, c2, c3, cv, e'⟩ | ⟨c1, c2, c3, c4, cv, cs, e'⟩ | ⟨c1, c2, c3, c4, c5, cv, cw, e'⟩ | e'
  ·exfalso
   have : decodeN n b0 b1 b2 b3 = (b0, 1) := by unfold decodeN; rw [if_pos c]
   rw [this] at e; simp at e; omega
  ·exfalso
   have g1 : 1 < k := by omega
   rw [if_pos g1] at c3 cv
   have : decodeN n b0 b1 b2 b3 = (b0 % 32 * 64 + b1 % 64, 2) := by
    unfold decodeN; rw [if_neg (by omega), if_pos ⟨c1, by omega, c3⟩, if_pos (by omega)]
   rw [this] at e; simp at e
  ·exfalso
   have g1 : 1 < k := by omega
   have g2 : 2 < k := by omega
   rw [if_pos g1] at c3 cv cs; rw [if_pos g2] at c4 cv cs
   have : decodeN n b0 b1 b2 b3 = (b0 % 16 * 4096 + b1 % 64 * 64 + b2 % 64, 3) := by
    unfold decodeN; rw [if_neg (by omega), if_neg (by omega), if_pos ⟨c1, ⟨by omega, c3⟩, by omega, c4⟩, if_pos (by omega)]
   rw [this] at e; simp at e
  ·exfalso
   have g1 : 1 < k := by omega
   have g2 : 2 < k := by omega
   have g3 : 3 < k := by omega
   rw [if_pos g1] at c3 cv cw; rw [if_pos g2] at c4 cv cw; rw [if_pos g3] at c5 cv cw
   have : decodeN n b0 b1 b2 b3 = (b0 % 8 * 262144 + b1 % 64 * 4096 + b2 % 64 * 64 + b3 % 64, 4) := by
    unfold decodeN; rw [if_neg (by omega), if_neg (by omega), if_neg (by omega), if_pos ⟨c1, ⟨by omega, c3⟩, ⟨by omega, c4⟩, by omega, c5⟩, if_pos (by omega)]
   rw [this] at e; simp at e
  ·exact e'
theorem zc0 (l : List UInt8) (k : Nat) (hne : l ≠ []) (hk : (decodeL l).2 <= k) : decodeL (l.take k) = decodeL l := by
 have hw := decodeL_width l
 have hl : 0 < l.length := List.length_pos_iff.2 hne
 rw [decodeL_N] at hk
 rw [decodeL_N l, decodeL_N (l.take k), List.length_take, zdk, zdk, zdk, zdk]
 have := decodeN_inj_take l.length k (l.getD 0 0).toNat (l.getD 1 0).toNat (l.getD 2 0).toNat (l.getD 3 0).toNat (l.getD 0 0).toNat_lt (l.getD 1 0).toNat_lt (l.getD 2 0).toNat_lt (l.getD 3 0).toNat_lt (by rw [<- decodeL_N] at hk; omega) hl hk
 rw [<- this]
 have k0 : 0 < k := by rw [<- decodeL_N] at hk; omega
 rw [if_pos k0]
 congr 1 <;> split <;> rfl
theorem zer (l u : List UInt8) (hne : l ≠ []) (hv : ¬ ((decodeL l).1 = 65533 /\ (decodeL l).2 = 1)) : decodeL (l ++ u) = decodeL l := by
 have hl : 0 < l.length := List.length_pos_iff.2 hne
 rw [decodeL_N] at hv
 rw [decodeL_N l, decodeL_N (l ++ u), List.length_append]
 rcases decodeN_shape l.length (l.getD 0 0).toNat (l.getD 1 0).toNat (l.getD 2 0).toNat (l.getD 3 0).toNat with ⟨c, e⟩ | ⟨c1, c2, c3, cv, e⟩ | ⟨c1, c2, c3, c4, cv, cs, e⟩ | ⟨c1, c2, c3, c4, c5, cv, cw, e⟩ | e
 ·rw [e, zb1 l u 0 hl]; unfold decodeN; rw [if_pos c]
 ·rw [e, zb1 l u 0 hl, zb1 l u 1 c2]
  unfold decodeN
  rw [if_neg (by omega), if_pos ⟨c1, by omega, c3⟩, if_pos (by omega)]
 ·rw [e, zb1 l u 0 hl, zb1 l u 1 (by omega), zb1 l u 2 c2]
  unfold decodeN
  rw [if_neg (by omega), if_neg (by omega), if_pos ⟨c1, ⟨by omega, c3⟩, by omega, c4⟩, if_pos (by omega)]
 ·rw [e, zb1 l u 0 hl, zb1 l u 1 (by omega), zb1 l u 2 (by omega), zb1 l u 3 c2]
  unfold decodeN
  rw [if_neg (by omega), if_neg (by omega), if_neg (by omega), if_pos ⟨c1, ⟨by omega, c3⟩, ⟨by omega, c4⟩, by omega, c5⟩, if_pos (by omega)]
 ·exact absurd ⟨by rw [e], by rw [e]⟩ hv
def norm (r : Int) : Int := if r < 0 \/ (55296 <= r /\ r <= 57343) \/ 1114111 < r then 65533 else r
theorem decodeL_encode (r : Int) : ((decodeL (encodeRune r)).1 : Int) = norm r /\ (decodeL (encodeRune r)).2 = (encodeRune r).length /\ ¬ ((decodeL (encodeRune r)).1 = 65533 /\ (decodeL (encodeRune r)).2 = 1) := by
 rw [decodeL_N]
 unfold norm
 by_cases hb : r < 0 \/ (55296 <= r /\ r <= 57343) \/ 1114111 < r
 ·rw [if_pos hb]
  unfold encodeRune; rw [encodeRuneZ_bad hb]; decide
 ·rw [if_neg hb]
  by_cases h1 : r <= 127
  ·have e : encodeRune r = [r.toNat.toUInt8] := by unfold encodeRune; rw [encodeRuneZ_one (by omega) h1]; rfl
   rw [e]
   have : decodeN 1 (r.toNat % 256) 0 0 0 = (r.toNat % 256, 1) := by unfold decodeN; rw [if_pos (by omega)]
   simp only [List.length_singleton, List.getD, List.getElem?_cons_zero, Option.getD_some]
   simp [this]; omega
  ·by_cases h2 : r <= 2047
   ·have e : encodeRune r = [(192 + r / 64).toNat.toUInt8, (128 + r % 64).toNat.toUInt8] := by unfold encodeRune; rw [encodeRuneZ_two (by omega) h2]; rfl
    rw [e]
    have : decodeN 2 ((192 + r / 64).toNat % 256) ((128 + r % 64).toNat % 256) 0 0 = (r.toNat, 2) := by
     unfold decodeN; rw [if_neg (by omega), if_pos (by omega), if_pos (by omega)]; congr 1; omega
    simp [List.getD, this]; omega
   ·by_cases h3 : r <= 65535
    ·have e : encodeRune r = [(224 + r / 4096).toNat.toUInt8, (128 + r / 64 % 64).toNat.toUInt8, (128 + r % 64).toNat.toUInt8] := by unfold encodeRune; rw [encodeRuneZ_three (by omega)]; rfl
     rw [e]
     have : decodeN 3 ((224 + r / 4096).toNat % 256) ((128 + r / 64 % 64).toNat % 256) ((128 + r % 64).toNat % 256) 0 = (r.toNat, 3) := by
      unfold decodeN; rw [if_neg (by omega), if_neg (by omega), if_pos (by omega), if_pos (by omega)]; congr 1; omega
     simp [List.getD, this]; omega
    ·have e : encodeRune r = [(240 + r / 262144).toNat.toUInt8, (128 + r / 4096 % 64).toNat.toUInt8, (128 + r / 64 % 64).toNat.toUInt8, (128 + r % 64).toNat.toUInt8] := by unfold encodeRune; rw [encodeRuneZ_four (by omega) (by omega)]; rfl
     rw [e]
     have : decodeN 4 ((240 + r / 262144).toNat % 256) ((128 + r / 4096 % 64).toNat % 256) ((128 + r / 64 % 64).toNat % 256) ((128 + r % 64).toNat % 256) = (r.toNat, 4) := by
      unfold decodeN; rw [if_neg (by omega), if_neg (by omega), if_neg (by omega), if_pos (by omega), if_pos (by omega)]; congr 1; omega
     simp [List.getD, this]; omega
theorem encodeRune_ne (r : Int) : encodeRune r ≠ [] := by
 have := (runeCells_le r).1; rw [runeCells_length] at this
 intro h; rw [h] at this; simp at this
theorem decodeL_encode_app (r : Int) (u : List UInt8) : ((decodeL (encodeRune r ++ u)).1 : Int) = norm r /\ (decodeL (encodeRune r ++ u)).2 = (encodeRune r).length := by
 obtain ⟨h1, h2, h3⟩ := decodeL_encode r
 rw [zer _ u (encodeRune_ne r) h3]
 exact ⟨h1, h2⟩
def zdN : Nat -> List UInt8 -> List (List UInt8)
 | 0, _ => []
 | n + 1, l => if l = [] then [] else l :: zdN n (l.drop (decodeL l).2)
def sufs (l : List UInt8) : List (List UInt8) := zdN l.length l
theorem zbH (n : Nat) : zdN n [] = [] := by cases n <;> simp [zdN]
theorem zes : ∀ (n m : Nat) (l : List UInt8), l.length <= n -> l.length <= m -> zdN n l = zdN m l
 | 0, m, l, hn, _ => by
   have : l = [] := List.eq_nil_of_length_eq_zero (by omega)
   subst this; rw [zbH, zbH]
 | n + 1, 0, l, _, hm => by
   have : l = [] := List.eq_nil_of_length_eq_zero (by omega)
   subst this; rw [zbH, zbH]
 | n + 1, m + 1, l, hn, hm => by
   by_cases hne : l = []
   ·subst hne; rw [zbH, zbH]
   ·have hw := decodeL_width l
    have hl : 0 < l.length := List.length_pos_iff.2 hne
    simp only [zdN, if_neg hne]
    rw [zes n m _ (by rw [List.length_drop]; omega) (by rw [List.length_drop]; omega)]
theorem zdl : sufs [] = [] := rfl
theorem zb4 (l : List UInt8) (hne : l ≠ []) : sufs l = l :: sufs (l.drop (decodeL l).2) := by
 have hw := decodeL_width l
 have hl : 0 < l.length := List.length_pos_iff.2 hne
 unfold sufs
 obtain ⟨n, hn⟩ : ∃ n, l.length = n + 1 := ⟨l.length - 1, by omega⟩
 rw [hn]
 simp only [zdN, if_neg hne]
 rw [zes n _ _ (by rw [List.length_drop]; omega) (Nat.le_refl _)]
def head (l : List UInt8) : List UInt8 := l.take (decodeL l).2
theorem zfP (l : List UInt8) : head l ++ l.drop (decodeL l).2 = l := List.take_append_drop _ _
theorem zaC {P : List UInt8 -> Prop} (h0 : P []) (h1 : ∀ l, l ≠ [] -> P (l.drop (decodeL l).2) -> P l) : ∀ l, P l := by
 have : ∀ n (l : List UInt8), l.length <= n -> P l := by
  intro n
  induction n with
  | zero => intro l h; have : l = [] := List.eq_nil_of_length_eq_zero (by omega); subst this; exact h0
  | succ n ih =>
    intro l h
    by_cases hne : l = []
    ·subst hne; exact h0
    ·have hw := decodeL_width l
     have hl : 0 < l.length := List.length_pos_iff.2 hne
     exact h1 l hne (ih _ (by rw [List.length_drop]; omega))
 exact fun l => this l.length l (Nat.le_refl _)
theorem sufs_len (l : List UInt8) : (sufs l).length <= l.length := by
 induction l using zaC with
 | h0 => simp [zdl]
 | h1 l hne ih =>
   have hw := decodeL_width l
   have hl := decodeL_le l hne
   rw [zb4 l hne, List.length_cons]
   rw [List.length_drop] at ih; omega
def rune (t : List UInt8) : Int := ((decodeL t).1 : Int)
def zai (l : List UInt8) : List Int := (sufs l).map rune
end Go.Proofs.YtbcemjhaecelnaaGreatDoor
end
section
namespace Go.Proofs.YtbcemjhaecelnaaGreatDoor
open Go.RowKit
def zaj (r : Int) : Int :=
 if r < 0 \/ r = 65533 then 0
 else if (97 <= r /\ r <= 122) \/ (65 <= r /\ r <= 90) \/ r = 95 \/ 128 <= r then 1
 else if 48 <= r /\ r <= 57 then 2
 else if r = 32 \/ r = 9 \/ r = 10 then 3
 else 4
theorem zb9 {k : IntKind} {a b : Int} (h : a = b) : Ending.returned (.int k a) = .returned (.int k b) := by rw [h]
theorem zb2 (r : Int) (w : World) : Calls Tryz.prog 42 #[.int .i32 r] w fun e w' => e = .returned (.int .i64 (zaj r)) /\ w = w' := by
 go_enter Tryz.func42, Tryz.ntmps42
 go_wp2
 all_goals (go_ret; refine ⟨zb9 ?_, rfl⟩; first | rfl | skip)
 all_goals ((try simp only [beq_iff_eq, beq_eq_false_iff_ne] at *); unfold zaj; repeat' split)
 all_goals omega
def zbZ (l : List UInt8) : Nat := (sufs l).length
theorem za6 {s : ByteArray} {pos : Nat} (h : pos < s.size) : s.data.toList.drop pos ≠ [] := by
 intro h0
 have := congrArg List.length h0
 rw [List.length_drop, <- Lib.size_eq] at this
 simp at this; omega
theorem zaH {s : ByteArray} {pos : Nat} (h : ¬ pos < s.size) : s.data.toList.drop pos = [] := List.drop_eq_nil_of_le (by rw [<- Lib.size_eq]; omega)
theorem zg3 {s : ByteArray} {pos : Nat} (h : pos < s.size) : sufs (s.data.toList.drop pos) = s.data.toList.drop pos :: sufs (s.data.toList.drop (pos + (Utf8.decode s pos).2)) := by
 rw [zb4 _ (za6 h), Lib.decodeL_drop, List.drop_drop]
theorem zbT (s : ByteArray) (pos : Nat) : 1 <= (Utf8.decode s pos).2 := by rw [<- Lib.decodeL_drop]; exact Lib.decodeL_width _
theorem zbm {s : ByteArray} {pos : Nat} (h : pos < s.size) : pos + (Utf8.decode s pos).2 <= s.size := by
 have := Lib.decodeL_le _ (za6 h)
 rw [Lib.decodeL_drop, List.length_drop, <- Lib.size_eq] at this; omega
theorem zac {w : World} {k : Nat} {s : ByteArray} {p : Nat} (h : w.heap[k]? = some (.stringIter s p)) : w.iterPos k = p := by simp [World.iterPos, h]
end Go.Proofs.YtbcemjhaecelnaaGreatDoor
end
section
namespace Go.Proofs.YtbcemjhaecelnaaGreatDoor
open Go.RowKit
def zbw : Nat -> List Int -> Bool
 | n, [] => decide (0 < n)
 | n, r :: rs => if n = 30 \/ (zaj r ≠ 1 /\ (zaj r ≠ 2 \/ n = 0)) then false else zbw (n + 1) rs
def zbz (l : List UInt8) : Bool := zbw 0 (zai l)
theorem zdm {s : ByteArray} {pos : Nat} (h : pos < s.size) : zai (s.data.toList.drop pos) = ((Utf8.decode s pos).1 : Int) :: zai (s.data.toList.drop (pos + (Utf8.decode s pos).2)) := by
 unfold zai
 rw [zg3 h, List.map_cons]
 unfold rune
 rw [Lib.decodeL_drop]
theorem zc1 {s : ByteArray} {pos : Nat} (h : ¬ pos < s.size) : zai (s.data.toList.drop pos) = [] := by rw [zaH h]; rfl
theorem zaY {a b : Bool} (h : a = b) : Ending.returned (.bool a) = .returned (.bool b) := by rw [h]
theorem zea (k : Nat) (r : Int) (rs : List Int) (h : k = 30 \/ (zaj r ≠ 1 /\ (zaj r ≠ 2 \/ k = 0))) : zbw k (r :: rs) = false := by
 unfold zbw; rw [if_pos h]
theorem zc2 (k : Nat) (r : Int) (rs : List Int) (h : ¬ (k = 30 \/ (zaj r ≠ 1 /\ (zaj r ≠ 2 \/ k = 0)))) : zbw k (r :: rs) = zbw (k + 1) rs := by
 rw [zbw, if_neg h]
theorem zgP (s : ByteArray) (w : World) : Calls Tryz.prog 82 #[.string s] w fun e w' => e = .returned (.bool (zbz s.data.toList)) /\ Below w.heap.size w w' := by
 go_enter Tryz.func82, Tryz.ntmps82
 go_wp2
 go_loopw [3] (fun v wr => ∃ (pos k : Nat), wr.heap[w.heap.size]? = some (.stringIter s pos) /\ Below w.heap.size w wr /\ v = .int .i64 k /\ Hid (zbw k (zai (s.data.toList.drop pos)) = zbz s.data.toList) /\ k <= 30) (fun _ wr => s.size - wr.iterPos w.heap.size)
 case atStart => exact ⟨0, 0, World.iter_heap w s 0, (Below.refl _ _).alloc (Nat.le_refl _) _, rfl, (by show _ = _; simp [zbz]), by omega⟩
 case round =>
  obtain ⟨pos, k, hit, hbw, rfl, H, hk⟩ := hrel
  have hpos0 := zac hit
  by_cases hp : pos < s.size
  ·have hnx : ∀ ty, (Instr.next (.pointer (some ⟨w.heap.size, 0, none⟩)) true ty).run Tryz.prog wr = _ := fun ty => Lib.run_next_any_at wr w.heap.size s pos ty hit hp
   have hwd := zbT s pos
   have hit2 := Lib.iterAt_heap wr w.heap.size s pos (pos + (Utf8.decode s pos).2) hit
   have hbw2 := Lib.below_iterAt hbw (k := w.heap.size) (Nat.le_refl _) s (pos + (Utf8.decode s pos).2)
   have H2 : Hid (zbw k (((Utf8.decode s pos).1 : Int) :: zai (s.data.toList.drop (pos + (Utf8.decode s pos).2))) = zbz s.data.toList) := by
    show _ = _
    rw [<- H.out, zdm hp]
   clear H
   go_wp2_with (go_at_call 42; refine (zb2 _ _).mono ?_; rintro e w' ⟨rfl, rfl⟩)
   all_goals try (simp only [beq_iff_eq, beq_eq_false_iff_ne, bne_iff_ne, bne_eq_false_iff_eq, ne_eq] at *)
   all_goals first
    | (go_ret
       exact ⟨zaY (by rw [<- H2.out, zea _ _ _ (by omega)]), hbw2⟩)
    | (go_roundw
       case rel => exact ⟨pos + (Utf8.decode s pos).2, k + 1, hit2, hbw2, by go_num, (by show _ = _; rw [<- H2.out, zc2 _ _ _ (by omega)]), by omega⟩
       case measure => rw [zac hit2, hpos0]; omega)
    | (exfalso; omega)
  ·have hnx : ∀ ty, (Instr.next (.pointer (some ⟨w.heap.size, 0, none⟩)) true ty).run Tryz.prog wr = _ := fun ty => Lib.run_next_end_at wr w.heap.size s pos ty hit hp
   have H2 : Hid (decide (0 < k) = zbz s.data.toList) := by
    show _ = _
    rw [<- H.out, zc1 hp]; rfl
   go_wp2
   go_ret
   exact ⟨zaY (by rw [<- H2.out]), hbw⟩
end Go.Proofs.YtbcemjhaecelnaaGreatDoor
end
section
end
section
namespace Go.Proofs.YtbcemjhaecelnaaGreatDoor
open Go.RowKit
def hexd (n : Nat) : UInt8 := if n < 10 then (48 + n).toUInt8 else (87 + n).toUInt8
theorem zgQ (i : Nat) (h : i < (⟨#[48, 49, 50, 51, 52, 53, 54, 55, 56, 57, 97, 98, 99, 100, 101, 102]⟩ : ByteArray).size) : (⟨#[48, 49, 50, 51, 52, 53, 54, 55, 56, 57, 97, 98, 99, 100, 101, 102]⟩ : ByteArray)[i]'h = hexd i := by
 have h16 : i < 16 := h
 have : i = 0 \/ i = 1 \/ i = 2 \/ i = 3 \/ i = 4 \/ i = 5 \/ i = 6 \/ i = 7 \/ i = 8 \/ i = 9 \/ i = 10 \/ i = 11 \/ i = 12 \/ i = 13 \/ i = 14 \/ i = 15 := by omega
 rcases this with rfl | rfl | rfl | rfl | rfl | rfl | rfl | rfl | rfl | rfl | rfl | rfl | rfl | rfl | rfl | rfl <;> rfl
theorem writeByte_any (B b : Nat) (acc : List UInt8) (c : Nat) (hc : c < 256) (w : World) (h : Lib.IsBuilderF 63 5 B b (Lib.byteCells acc) w) (hlen : acc.length + 4 <= 140737488355328) (hBw : B <= w.heap.size) :
 Calls Tryz.prog 120 #[.pointer (some ⟨b, 0, none⟩), .int .u8 c] w fun e w' => e = .returned (.tuple #[]) /\ (Lib.IsBuilderF 63 5 B b (Lib.byteCells (acc ++ [92, 120, hexd (c / 16), hexd (c % 16)])) w' /\ Below B w w' /\ Lib.OthersKept 5 (some b) w w') := by
 go_enter Tryz.func120, Tryz.ntmps120
 have L0 : (Lib.byteCells acc).length + (⟨#[92, 120]⟩ : ByteArray).size <= 140737488355328 := by rw [Lib.byteCells_length]; show _ + 2 <= _; omega
 go_wp2_with (go_at_call 32; refine (Tryz.Builder_WriteString_k B b _ ⟨#[92, 120]⟩ _ h L0 hBw).mono ?_)
 rintro e W1 ⟨rfl, h1, b1, k1⟩
 go_wp2_with fail
 rw [zgQ]
 refine (Tryz.Builder_WriteByte_k B b _ _ _ (.inr h1) (by rw [List.length_append, Lib.byteCells_length]; show _ + 2 + 1 <= _; omega) (by have := b1.size; omega)).mono ?_
 rintro e W2 ⟨rfl, h2, b2, k2⟩
 go_wp2_with fail
 rw [zgQ]
 refine (Tryz.Builder_WriteByte_k B b _ _ _ (.inr h2) (by rw [List.length_append, List.length_append, Lib.byteCells_length]; show _ + 2 + 1 + 1 <= _; omega) (by have := b1.size; have := b2.size; omega)).mono ?_
 rintro e W3 ⟨rfl, h3, b3, k3⟩
 go_wp2_with fail
 go_end0
 have e1 : Lib.byteCells acc ++ Lib.strCells ⟨#[92, 120]⟩ ++ [Value.int .u8 (hexd (c / 16)).toNat] ++ [Value.int .u8 (hexd (c % 16)).toNat] = Lib.byteCells (acc ++ [92, 120, hexd (c / 16), hexd (c % 16)]) := by
  rw [Lib.byteCells_append, List.append_assoc, List.append_assoc]; rfl
 rw [e1] at h3
 exact ⟨rfl, .inr h3, (b1.trans b2).trans b3, (k1.trans k2).trans k3⟩
end Go.Proofs.YtbcemjhaecelnaaGreatDoor
end
section
namespace Go.Proofs.YtbcemjhaecelnaaGreatDoor
open Go.RowKit
def zar (t : List UInt8) : List UInt8 :=
 if (Lib.decodeL t).1 = 34 \/ (Lib.decodeL t).1 = 92 then 92 :: Lib.encodeRune ((Lib.decodeL t).1 : Int)
 else if (Lib.decodeL t).1 = 10 then [92, 110]
 else if (Lib.decodeL t).1 = 65533 /\ (Lib.decodeL t).2 = 1 then [92, 120, hexd ((t.getD 0 0).toNat / 16), hexd ((t.getD 0 0).toNat % 16)]
 else Lib.encodeRune ((Lib.decodeL t).1 : Int)
def zbA (l : List UInt8) : List UInt8 := (sufs l).flatMap zar
def zau (l : List UInt8) : List UInt8 := 34 :: (zbA l ++ [34])
theorem zeN (t : List UInt8) : (zar t).length <= 5 := by
 have := (Lib.encodeRuneZ_length ((Lib.decodeL t).1 : Int)).2
 have h : (Lib.encodeRune ((Lib.decodeL t).1 : Int)).length <= 4 := by simpa [Lib.encodeRune] using this
 unfold zar
 split
 ·simp; omega
 ·split
  ·simp
  ·split
   ·simp
   ·omega
theorem zdO {s : ByteArray} {pos : Nat} (h : pos < s.size) : zbA (s.data.toList.drop pos) = zar (s.data.toList.drop pos) ++ zbA (s.data.toList.drop (pos + (Utf8.decode s pos).2)) := by
 unfold zbA; rw [zg3 h, List.flatMap_cons]
theorem bad_iff (t : List UInt8) (hne : t ≠ []) (h : (Lib.decodeL t).1 = 65533) : (Lib.decodeL t).2 = 1 ↔ ¬ [239, 191, 189] <+: t := by
 constructor
 ·intro hw hp
  obtain ⟨u, rfl⟩ := hp
  have := decodeL_encode_app 65533 u
  have e : Lib.encodeRune 65533 = [239, 191, 189] := by decide
  rw [e] at this
  rw [hw] at this
  exact absurd this.2 (by decide)
 ·intro hp
  false_or_by_contra
  rename_i hw
  have hv : ¬ ((Lib.decodeL t).1 = 65533 /\ (Lib.decodeL t).2 = 1) := fun x => hw x.2
  have e := Lib.encode_decode t hne hv
  rw [h] at e
  have e' : Lib.encodeRune ((65533 : Nat) : Int) = [239, 191, 189] := by decide
  rw [e'] at e
  exact hp (by rw [e]; exact List.take_prefix _ _)
theorem ret_str {a b : List UInt8} (h : a = b) : Ending.returned (.string ⟨a.toArray⟩) = .returned (.string ⟨b.toArray⟩) := by rw [h]
theorem quote_any (s : ByteArray) (w : World) (hs : s.size <= 1099511627776) :
 Calls Tryz.prog 103 #[.string s] w fun e w' => e = .returned (.string ⟨(zau s.data.toList).toArray⟩) /\ Below w.heap.size w w' := by
 go_enter Tryz.func103, Tryz.ntmps103
 have hI0 := Lib.IsBuilderF.of (Lib.fresh_isBuilder 63 5 w)
 go_wp2_with (go_at_call 75; refine (Tryz.Builder_WriteByte_k w.heap.size w.heap.size [] 34 _ hI0 (by simp) (by simp)).mono ?_)
 rintro e W0 ⟨rfl, h0, b0, k0⟩
 have hb0 : Below w.heap.size w W0 := ((Below.refl _ w).alloc (Nat.le_refl _) _).trans b0
 have hz0 : w.heap.size < W0.heap.size := by have := b0.size; simp at this; omega
 have hI1 : Lib.IsBuilderF 63 5 w.heap.size w.heap.size (Lib.byteCells [34]) W0 := .inr h0
 clear h0 hI0 k0 b0
 go_wp2
 obtain ⟨K, hK⟩ : ∃ K, K = W0.heap.size := ⟨_, rfl⟩
 go_loopw [] (fun wr => ∃ (pos : Nat) (acc : List UInt8), Lib.IsBuilderF 63 5 w.heap.size w.heap.size (Lib.byteCells acc) wr /\ wr.heap[W0.heap.size]? = some (.stringIter s pos) /\ Below w.heap.size w wr /\ Hid (acc ++ (zbA (s.data.toList.drop pos) ++ [34]) = zau s.data.toList) /\ pos <= s.size /\ acc.length <= 5 * pos + 1) (fun wr => s.size - wr.iterPos W0.heap.size)
 case atStart =>
  refine ⟨0, [34], hI1.alloc _, World.iter_heap W0 s 0, hb0.alloc (by omega) _, ?_, Nat.zero_le _, by simp⟩
  show _ = _
  simp [zau]
 case round =>
  obtain ⟨pos, acc, hI, hit, hbw, H, hps, hal⟩ := hrel
  have hpos0 := zac hit
  have hsz : W0.heap.size < wr.heap.size := (Array.getElem?_eq_some_iff.1 hit).1
  by_cases hp : pos < s.size
  ·have hnx : ∀ ty, (Instr.next (.pointer (some ⟨W0.heap.size, 0, none⟩)) true ty).run Tryz.prog wr = _ := fun ty => Lib.run_next_any_at wr W0.heap.size s pos ty hit hp
   have hwd := zbT s pos
   have hwl := zbm hp
   have hd1 := decode_le s pos
   have hI2 := hI.iterAt hit (pos + (Utf8.decode s pos).2)
   have hit2 := Lib.iterAt_heap wr W0.heap.size s pos (pos + (Utf8.decode s pos).2) hit
   have hbw2 := Lib.below_iterAt hbw (k := W0.heap.size) (by omega) s (pos + (Utf8.decode s pos).2)
   have hsz2 : w.heap.size <= (wr.iterAt W0.heap.size s (pos + (Utf8.decode s pos).2)).heap.size := by rw [Lib.iterAt_size]; omega
   have H2 : Hid ((acc ++ zar (s.data.toList.drop pos)) ++ (zbA (s.data.toList.drop (pos + (Utf8.decode s pos).2)) ++ [34]) = zau s.data.toList) := by
    show _ = _
    rw [<- H.out, zdO hp]; simp
   clear H
   have hcl := zeN (s.data.toList.drop pos)
   have hr0 : (-2147483648 : Int) <= ((Utf8.decode s pos).1 : Int) := by omega
   have hr1 : ((Utf8.decode s pos).1 : Int) <= 2147483647 := by omega
   have hlen : (Lib.byteCells acc).length + 8 <= 140737488355328 := by rw [Lib.byteCells_length]; omega
   by_cases h34 : (Utf8.decode s pos).1 = 34 \/ (Utf8.decode s pos).1 = 92
   ·have E : Hid (Lib.byteCells acc ++ [.int .u8 92] ++ Lib.runeCells ((Utf8.decode s pos).1 : Int) = Lib.byteCells (acc ++ zar (s.data.toList.drop pos))) := by
     show _ = _
     unfold zar; rw [Lib.decodeL_drop, if_pos h34, <- Lib.byteCells_encodeRune, List.append_assoc, Lib.byteCells_append]; rfl
    have t : ((((Utf8.decode s pos).1 : Int) == 34) = true) \/ ((((Utf8.decode s pos).1 : Int) == 34) = false /\ (((Utf8.decode s pos).1 : Int) == 92) = true) := by
     simp only [beq_iff_eq, beq_eq_false_iff_ne]; omega
    clear h34
    rcases t with t | ⟨t, t'⟩
    all_goals
     go_wp2_with (go_at_call 75; refine (Tryz.Builder_WriteByte_k w.heap.size w.heap.size _ 92 _ hI2 (by omega) hsz2).mono ?_)
     rintro e W1 ⟨rfl, h1, b1, k1⟩
     go_wp2_with (go_at_call 118; refine (Tryz.Builder_WriteRune_k w.heap.size w.heap.size _ _ hr0 hr1 _ (.inr h1) (by rw [List.length_append]; show _ + 1 + 4 <= _; omega) (by have := b1.size; omega)).mono ?_)
     rintro e W2 ⟨rfl, h2, b2, k2⟩
     have hF := h2
     have bF := b1.trans b2
     have kF := k1.trans k2
     clear h1 b1 k1 h2 b2 k2
     go_wp2
     go_roundw
     case rel => exact ⟨pos + (Utf8.decode s pos).2, acc ++ zar (s.data.toList.drop pos), by first | (rw [<- E.out]; exact .inr hF) | (rw [<- E.out]; exact hF), kF.iter hit2 (by omega), hbw2.trans bF, H2, hwl, by rw [List.length_append]; omega⟩
     case measure => rw [zac (kF.iter hit2 (by omega)), hpos0]; omega
   ·have t34 : (((Utf8.decode s pos).1 : Int) == 34) = false := by rw [beq_eq_false_iff_ne]; omega
    have t92 : (((Utf8.decode s pos).1 : Int) == 92) = false := by rw [beq_eq_false_iff_ne]; omega
    by_cases h10 : (Utf8.decode s pos).1 = 10
    ·have E : Hid (Lib.byteCells acc ++ Lib.strCells ⟨#[92, 110]⟩ = Lib.byteCells (acc ++ zar (s.data.toList.drop pos))) := by
      show _ = _
      unfold zar; rw [Lib.decodeL_drop, if_neg h34, if_pos h10, Lib.byteCells_append]; rfl
     have t10 : (((Utf8.decode s pos).1 : Int) == 10) = true := by rw [beq_iff_eq]; omega
     have hL : (Lib.byteCells acc).length + (⟨#[92, 110]⟩ : ByteArray).size <= 140737488355328 := by show _ + 2 <= _; omega
     clear h34 h10
     go_wp2_with (go_at_call 32; refine (Tryz.Builder_WriteString_k w.heap.size w.heap.size _ ⟨#[92, 110]⟩ _ hI2 hL hsz2).mono ?_)
     rintro e W1 ⟨rfl, hF, bF, kF⟩
     go_wp2
     go_roundw
     case rel => exact ⟨pos + (Utf8.decode s pos).2, acc ++ zar (s.data.toList.drop pos), by first | (rw [<- E.out]; exact .inr hF) | (rw [<- E.out]; exact hF), kF.iter hit2 (by omega), hbw2.trans bF, H2, hwl, by rw [List.length_append]; omega⟩
     case measure => rw [zac (kF.iter hit2 (by omega)), hpos0]; omega
    ·have t10 : (((Utf8.decode s pos).1 : Int) == 10) = false := by rw [beq_eq_false_iff_ne]; omega
     by_cases hbad : (Utf8.decode s pos).1 = 65533
     ·have tb : (((Utf8.decode s pos).1 : Int) == 65533) = true := by rw [beq_iff_eq]; omega
      have hx : (s.extract pos s.size).data.toList = s.data.toList.drop pos := by rw [Lib.extract_data, Lib.size_eq, List.take_of_length_le (by rw [List.length_drop]; omega)]
      have cH := Tryz.strings_HasPrefix (s.extract pos s.size) ⟨#[239, 191, 189]⟩ (wr.iterAt W0.heap.size s (pos + (Utf8.decode s pos).2))
      rw [hx] at cH
      have hbi := bad_iff (s.data.toList.drop pos) (za6 hp) (by rw [Lib.decodeL_drop]; exact hbad)
      cases hpf : Lib.hasPrefix (s.data.toList.drop pos) [239, 191, 189] with
      | true =>
        have hnw : ¬ (Lib.decodeL (s.data.toList.drop pos)).2 = 1 := by
         intro h; exact hbi.1 h (by unfold Lib.hasPrefix at hpf; exact List.isPrefixOf_iff_prefix.1 hpf)
        have E : Hid (Lib.byteCells acc ++ Lib.runeCells ((Utf8.decode s pos).1 : Int) = Lib.byteCells (acc ++ zar (s.data.toList.drop pos))) := by
         show _ = _
         rw [Lib.decodeL_drop] at hnw
         unfold zar; rw [Lib.decodeL_drop, if_neg h34, if_neg h10, if_neg (fun x => hnw x.2), Lib.byteCells_append, Lib.byteCells_encodeRune]
        have CH := zh (show Calls Tryz.prog 119 #[.string (s.extract pos s.size), .string ⟨#[239, 191, 189]⟩] (wr.iterAt W0.heap.size s (pos + (Utf8.decode s pos).2)) fun e w' => e = .returned (.bool true) /\ w' = (wr.iterAt W0.heap.size s (pos + (Utf8.decode s pos).2)) by rw [<- hpf]; exact cH)
        clear h34 h10 hbad hbi hnw hpf cH hx
        go_wp2_with (go_at_call 119; refine CH.out.mono ?_)
        rintro e w' ⟨rfl, rfl⟩
        go_wp2_with (go_at_call 118; refine (Tryz.Builder_WriteRune_k w.heap.size w.heap.size _ _ hr0 hr1 _ hI2 (by omega) hsz2).mono ?_)
        rintro e W1 ⟨rfl, hF, bF, kF⟩
        go_wp2
        go_roundw
        case rel => exact ⟨pos + (Utf8.decode s pos).2, acc ++ zar (s.data.toList.drop pos), by first | (rw [<- E.out]; exact .inr hF) | (rw [<- E.out]; exact hF) | exact hF, kF.iter hit2 (by omega), hbw2.trans bF, H2, hwl, by rw [List.length_append]; omega⟩
        case measure => rw [zac (kF.iter hit2 (by omega)), hpos0]; omega
      | false =>
        have hyw : (Lib.decodeL (s.data.toList.drop pos)).2 = 1 := by
         refine hbi.2 (fun h => ?_)
         unfold Lib.hasPrefix at hpf
         rw [List.isPrefixOf_iff_prefix.2 h] at hpf; cases hpf
        have hg0 : (s.data.toList.drop pos).getD 0 0 = s[pos] := by
         rw [Lib.getD_dropU, Nat.add_zero]; simp [List.getD, hp]; rfl
        have E : Hid (acc ++ [92, 120, hexd (s[pos].toNat / 16), hexd (s[pos].toNat % 16)] = acc ++ zar (s.data.toList.drop pos)) := by
         show _ = _
         rw [Lib.decodeL_drop] at hyw
         unfold zar; rw [Lib.decodeL_drop, if_neg h34, if_neg h10, if_pos ⟨hbad, hyw⟩, hg0]
        have CH := zh (show Calls Tryz.prog 119 #[.string (s.extract pos s.size), .string ⟨#[239, 191, 189]⟩] (wr.iterAt W0.heap.size s (pos + (Utf8.decode s pos).2)) fun e w' => e = .returned (.bool false) /\ w' = (wr.iterAt W0.heap.size s (pos + (Utf8.decode s pos).2)) by rw [<- hpf]; exact cH)
        have hlt := s[pos].toNat_lt
        clear h34 h10 hbad hbi hyw hpf cH hx hg0
        go_wp2_with (go_at_call 119; refine CH.out.mono ?_)
        rintro e w' ⟨rfl, rfl⟩
        go_wp2_with (go_at_call 120; refine (writeByte_any w.heap.size w.heap.size acc s[pos].toNat (by omega) _ hI2 (by rw [Lib.byteCells_length] at hlen; omega) hsz2).mono ?_)
        rintro e W1 ⟨rfl, hF, bF, kF⟩
        go_wp2
        go_roundw
        case rel => exact ⟨pos + (Utf8.decode s pos).2, acc ++ zar (s.data.toList.drop pos), by first | (rw [<- E.out]; exact .inr hF) | (rw [<- E.out]; exact hF) | exact hF, kF.iter hit2 (by omega), hbw2.trans bF, H2, hwl, by rw [List.length_append]; omega⟩
        case measure => rw [zac (kF.iter hit2 (by omega)), hpos0]; omega
     ·have tb : (((Utf8.decode s pos).1 : Int) == 65533) = false := by rw [beq_eq_false_iff_ne]; omega
      have E : Hid (Lib.byteCells acc ++ Lib.runeCells ((Utf8.decode s pos).1 : Int) = Lib.byteCells (acc ++ zar (s.data.toList.drop pos))) := by
       show _ = _
       unfold zar; rw [Lib.decodeL_drop, if_neg h34, if_neg h10, if_neg (fun x => hbad x.1), Lib.byteCells_append, Lib.byteCells_encodeRune]
      clear h34 h10 hbad
      go_wp2_with (go_at_call 118; refine (Tryz.Builder_WriteRune_k w.heap.size w.heap.size _ _ hr0 hr1 _ hI2 (by omega) hsz2).mono ?_)
      rintro e W1 ⟨rfl, hF, bF, kF⟩
      go_wp2
      go_roundw
      case rel => exact ⟨pos + (Utf8.decode s pos).2, acc ++ zar (s.data.toList.drop pos), by first | (rw [<- E.out]; exact .inr hF) | (rw [<- E.out]; exact hF), kF.iter hit2 (by omega), hbw2.trans bF, H2, hwl, by rw [List.length_append]; omega⟩
      case measure => rw [zac (kF.iter hit2 (by omega)), hpos0]; omega
  ·have hnx : ∀ ty, (Instr.next (.pointer (some ⟨W0.heap.size, 0, none⟩)) true ty).run Tryz.prog wr = _ := fun ty => Lib.run_next_end_at wr W0.heap.size s pos ty hit hp
   have H2 : Hid (acc ++ [34] = zau s.data.toList) := by
    show _ = _
    rw [<- H.out, zaH hp]; rfl
   clear H
   go_wp2_with (go_at_call 75; refine (Tryz.Builder_WriteByte_k w.heap.size w.heap.size _ 34 _ hI (by rw [Lib.byteCells_length]; omega) (by omega)).mono ?_)
   rintro e W1 ⟨rfl, h1, b1, k1⟩
   have h1' : Lib.IsBuilderF 63 5 w.heap.size w.heap.size (Lib.byteCells (acc ++ [34])) W1 := by rw [Lib.byteCells_append]; exact .inr h1
   go_wp2_with (go_at_call 34; refine (Tryz.Builder_String_any_k w.heap.size w.heap.size (acc ++ [34]) _ h1' (by have := b1.size; omega)).mono ?_)
   rintro e W2 ⟨rfl, _, b2, _⟩
   go_wp2
   go_ret
   exact ⟨ret_str H2.out, (hbw.trans b1).trans b2⟩
end Go.Proofs.YtbcemjhaecelnaaGreatDoor
end
section
namespace Go.Proofs.YtbcemjhaecelnaaGreatDoor
open Go.RowKit
theorem count_any (s : ByteArray) (w : World) (hs : s.size <= maxLen) : Calls Tryz.prog 174 #[.string s] w fun e w' => e = .returned (.int .i64 (zbZ s.data.toList : Nat)) /\ Below w.heap.size w w' := by
 unfold maxLen at hs
 go_enter Tryz.func174, Tryz.ntmps174
 go_wp2
 go_loopw [3] (fun v wr => ∃ (pos k : Nat), wr.heap[w.heap.size]? = some (.stringIter s pos) /\ Below w.heap.size w wr /\ v = .int .i64 k /\ Hid (k + (sufs (s.data.toList.drop pos)).length = zbZ s.data.toList) /\ k <= pos /\ pos <= s.size) (fun _ wr => s.size - wr.iterPos w.heap.size)
 case atStart => exact ⟨0, 0, World.iter_heap w s 0, (Below.refl _ _).alloc (Nat.le_refl _) _, rfl, (by show _ = _; simp [zbZ]), Nat.le_refl _, Nat.zero_le _⟩
 case round =>
  obtain ⟨pos, k, hit, hbw, rfl, H, hk, hps⟩ := hrel
  have hpos0 := zac hit
  by_cases hp : pos < s.size
  ·have hnx : ∀ ty, (Instr.next (.pointer (some ⟨w.heap.size, 0, none⟩)) true ty).run Tryz.prog wr = _ := fun ty => Lib.run_next_any_at wr w.heap.size s pos ty hit hp
   have hwd := zbT s pos
   have hwl := zbm hp
   have hit2 := Lib.iterAt_heap wr w.heap.size s pos (pos + (Utf8.decode s pos).2) hit
   have hbw2 := Lib.below_iterAt hbw (k := w.heap.size) (Nat.le_refl _) s (pos + (Utf8.decode s pos).2)
   have H2 : Hid (k + 1 + (sufs (s.data.toList.drop (pos + (Utf8.decode s pos).2))).length = zbZ s.data.toList) := by
    show _ = _
    rw [<- H.out, zg3 hp, List.length_cons]; omega
   go_wp2
   go_roundw
   case rel => exact ⟨pos + (Utf8.decode s pos).2, k + 1, hit2, hbw2, by go_num, H2, by omega, hwl⟩
   case measure => rw [zac hit2, hpos0]; omega
  ·have hnx : ∀ ty, (Instr.next (.pointer (some ⟨w.heap.size, 0, none⟩)) true ty).run Tryz.prog wr = _ := fun ty => Lib.run_next_end_at wr w.heap.size s pos ty hit hp
   have H2 : Hid (k = zbZ s.data.toList) := by
    show _ = _
    rw [<- H.out, zaH hp]; simp [zdl]
   go_wp2
   go_ret
   exact ⟨zb9 (by rw [H2.out]), hbw⟩
end Go.Proofs.YtbcemjhaecelnaaGreatDoor
end
section
end
section
namespace Go.Proofs.YtbcemjhaecelnaaGreatDoor
open Go.RowKit
def hexR (b : Nat) : Option Nat := if 48 <= b /\ b <= 57 then some (b - 48) else if 97 <= b /\ b <= 102 then some (b - 87) else none
def pre2 (x : List UInt8) (o : Option (List UInt8 × List UInt8)) : Option (List UInt8 × List UInt8) := o.map fun p => (x ++ p.1, p.2)
def rdX (k : List UInt8 -> Option (List UInt8 × List UInt8)) : List UInt8 -> Option (List UInt8 × List UInt8)
 | h :: l :: r => match hexR h.toNat with
   | none => none
   | some a => match hexR l.toNat with
     | none => none
     | some b => pre2 [(16 * a + b).toUInt8] (k r)
 | _ => none
def rd (stop : Bool) : Nat -> List UInt8 -> Option (List UInt8 × List UInt8)
 | 0, _ => if stop then none else some ([], [])
 | _ + 1, [] => if stop then none else some ([], [])
 | f + 1, c :: r =>
   if stop = true /\ c = 34 then some ([], r)
   else if c ≠ 92 then pre2 [c] (rd stop f r)
   else match r with
    | [] => none
    | d :: r2 =>
      if d = 34 \/ d = 92 then pre2 [d] (rd stop f r2)
      else if d = 110 then pre2 [10] (rd stop f r2)
      else if d = 120 then rdX (rd stop f) r2
      else none
theorem zg4 (stop : Bool) (f : Nat) (c : UInt8) (r : List UInt8) : rd stop (f + 1) (c :: r) =
 if stop = true /\ c = 34 then some ([], r)
 else if c ≠ 92 then pre2 [c] (rd stop f r)
 else match r with
  | [] => none
  | d :: r2 =>
    if d = 34 \/ d = 92 then pre2 [d] (rd stop f r2)
    else if d = 110 then pre2 [10] (rd stop f r2)
    else if d = 120 then rdX (rd stop f) r2
    else none := rfl
theorem zfy (o : Option (List UInt8 × List UInt8)) : pre2 [] o = o := by cases o <;> simp [pre2]
theorem zcd (x y : List UInt8) (o : Option (List UInt8 × List UInt8)) : pre2 x (pre2 y o) = pre2 (x ++ y) o := by cases o <;> simp [pre2]
theorem zgR (stop : Bool) : ∀ (xs u : List UInt8) (f : Nat), (∀ x ∈ xs, x ≠ 34 /\ x ≠ 92) -> (xs ++ u).length <= f -> ∃ f', u.length <= f' /\ rd stop f (xs ++ u) = pre2 xs (rd stop f' u)
 | [], u, f, _, hf => ⟨f, hf, by simp [zfy]⟩
 | x :: xs, u, f, h, hf => by
   obtain ⟨f, rfl⟩ : ∃ g, f = g + 1 := ⟨f - 1, by simp at hf; omega⟩
   obtain ⟨h1, h2⟩ := h x (by simp)
   obtain ⟨f', hf', e⟩ := zgR stop xs u f (fun y hy => h y (by simp [hy])) (by simp at hf ⊢; omega)
   refine ⟨f', hf', ?_⟩
   rw [List.cons_append, zg4, if_neg (fun hx => h1 hx.2), if_pos h2, e, zcd]; rfl
theorem zfQ : ∀ n, n < 16 -> hexR (hexd n).toNat = some n := by decide
theorem zeO : ∀ n, n < 16 -> (hexd n).toNat < 128 := by decide
theorem byte16 (c : UInt8) : (16 * (c.toNat / 16) + c.toNat % 16).toUInt8 = c := by
 have : 16 * (c.toNat / 16) + c.toNat % 16 = c.toNat := by omega
 rw [this]; simp
theorem zbK (t : List UInt8) (hne : t ≠ []) :
 ((Lib.decodeL t).1 = 34 /\ zar t = [92, 34] /\ head t = [34]) \/ ((Lib.decodeL t).1 = 92 /\ zar t = [92, 92] /\ head t = [92]) \/ ((Lib.decodeL t).1 = 10 /\ zar t = [92, 110] /\ head t = [10]) \/
 ((Lib.decodeL t).1 = 65533 /\ (Lib.decodeL t).2 = 1 /\ zar t = [92, 120, hexd ((t.getD 0 0).toNat / 16), hexd ((t.getD 0 0).toNat % 16)] /\ head t = [t.getD 0 0]) \/
 (((Lib.decodeL t).1 ≠ 34 /\ (Lib.decodeL t).1 ≠ 92 /\ (Lib.decodeL t).1 ≠ 10) /\ ¬ ((Lib.decodeL t).1 = 65533 /\ (Lib.decodeL t).2 = 1) /\ zar t = Lib.encodeRune ((Lib.decodeL t).1 : Int) /\ head t = Lib.encodeRune ((Lib.decodeL t).1 : Int)) := by
 have hv := Lib.encode_decode t hne
 by_cases h1 : (Lib.decodeL t).1 = 34
 ·refine .inl ⟨h1, ?_, ?_⟩
  ·unfold zar; rw [if_pos (.inl h1), h1]; decide
  ·unfold head; rw [<- hv (by omega), h1]; decide
 ·by_cases h2 : (Lib.decodeL t).1 = 92
  ·refine .inr (.inl ⟨h2, ?_, ?_⟩)
   ·unfold zar; rw [if_pos (.inr h2), h2]; decide
   ·unfold head; rw [<- hv (by omega), h2]; decide
  ·by_cases h3 : (Lib.decodeL t).1 = 10
   ·refine .inr (.inr (.inl ⟨h3, ?_, ?_⟩))
    ·unfold zar; rw [if_neg (by omega), if_pos h3]
    ·unfold head; rw [<- hv (by omega), h3]; decide
   ·by_cases h4 : (Lib.decodeL t).1 = 65533 /\ (Lib.decodeL t).2 = 1
    ·refine .inr (.inr (.inr (.inl ⟨h4.1, h4.2, ?_, ?_⟩)))
     ·unfold zar; rw [if_neg (by omega), if_neg h3, if_pos h4]
     ·unfold head; rw [h4.2, Lib.takeA t (List.length_pos_iff.2 hne)]
    ·refine .inr (.inr (.inr (.inr ⟨⟨h1, h2, h3⟩, h4, ?_, ?_⟩)))
     ·unfold zar; rw [if_neg (by omega), if_neg h3, if_neg h4]
     ·unfold head; rw [hv h4]
theorem zdP (r : Nat) (h1 : r ≠ 34) (h2 : r ≠ 92) : ∀ x ∈ Lib.encodeRune (r : Int), x ≠ 34 /\ x ≠ 92 := by
 have key : ∀ z : Int, 0 <= z -> z < 256 -> z ≠ 34 -> z ≠ 92 -> z.toNat.toUInt8 ≠ 34 /\ z.toNat.toUInt8 ≠ 92 := by
  intro z h0 h256 ha hb
  constructor
  ·intro h
   have := congrArg UInt8.toNat h
   simp at this; omega
  ·intro h
   have := congrArg UInt8.toNat h
   simp at this; omega
 unfold Lib.encodeRune Lib.encodeRuneZ
 intro x hx
 split at hx
 ·simp only [List.map_cons, List.map_nil, List.mem_singleton] at hx
  rw [hx]; exact key _ (by omega) (by omega) (by omega) (by omega)
 ·split at hx
  ·simp only [List.map_cons, List.map_nil, List.mem_cons, List.not_mem_nil, or_false] at hx
   rcases hx with hx | hx <;> (rw [hx]; exact key _ (by omega) (by omega) (by omega) (by omega))
  ·split at hx
   ·simp only [List.map_cons, List.map_nil, List.mem_cons, List.not_mem_nil, or_false] at hx
    rcases hx with hx | hx | hx <;> (rw [hx]; exact key _ (by omega) (by omega) (by omega) (by omega))
   ·split at hx
    ·simp only [List.map_cons, List.map_nil, List.mem_cons, List.not_mem_nil, or_false] at hx
     rcases hx with hx | hx | hx | hx <;> (rw [hx]; exact key _ (by omega) (by omega) (by omega) (by omega))
    ·simp only [List.map_cons, List.map_nil, List.mem_cons, List.not_mem_nil, or_false] at hx
     rcases hx with hx | hx | hx <;> (rw [hx]; decide)
theorem rd_chunk (stop : Bool) (t u : List UInt8) (hne : t ≠ []) (f : Nat) (hf : (zar t ++ u).length <= f) : ∃ f', u.length <= f' /\ rd stop f (zar t ++ u) = pre2 (head t) (rd stop f' u) := by
 rcases zbK t hne with ⟨_, hc, hh⟩ | ⟨_, hc, hh⟩ | ⟨_, hc, hh⟩ | ⟨_, _, hc, hh⟩ | ⟨⟨k1, k2, _⟩, _, hc, hh⟩
 ·rw [hc] at hf ⊢; rw [hh]
  obtain ⟨f, rfl⟩ : ∃ g, f = g + 1 := ⟨f - 1, by simp at hf; omega⟩
  exact ⟨f, by simp at hf; omega, by simp [rd]⟩
 ·rw [hc] at hf ⊢; rw [hh]
  obtain ⟨f, rfl⟩ : ∃ g, f = g + 1 := ⟨f - 1, by simp at hf; omega⟩
  exact ⟨f, by simp at hf; omega, by simp [rd]⟩
 ·rw [hc] at hf ⊢; rw [hh]
  obtain ⟨f, rfl⟩ : ∃ g, f = g + 1 := ⟨f - 1, by simp at hf; omega⟩
  exact ⟨f, by simp at hf; omega, by simp [rd]⟩
 ·rw [hc] at hf ⊢; rw [hh]
  obtain ⟨f, rfl⟩ : ∃ g, f = g + 1 := ⟨f - 1, by simp at hf; omega⟩
  have hb := (t.getD 0 0).toNat_lt
  refine ⟨f, by simp at hf; omega, ?_⟩
  generalize t.getD 0 0 = c at hb ⊢
  have e1 := zfQ (c.toNat / 16) (by omega)
  have e2 := zfQ (c.toNat % 16) (by omega)
  simp only [List.cons_append, List.nil_append, zg4]
  rw [if_neg (fun h => absurd h.2 (by decide)), if_neg (by decide), if_neg (by decide), if_neg (by decide), if_pos (by decide), rdX, e1]
  dsimp only
  rw [e2]
  dsimp only
  rw [byte16]
 ·rw [hc] at hf ⊢; rw [hh]
  exact zgR stop _ u f (zdP _ k1 k2) hf
theorem zcH (l : List UInt8) (hne : l ≠ []) : zbA l = zar l ++ zbA (l.drop (Lib.decodeL l).2) := by
 unfold zbA; rw [zb4 l hne, List.flatMap_cons]
theorem rd_body (stop : Bool) (l : List UInt8) : ∀ (u : List UInt8) (f : Nat), (zbA l ++ u).length <= f -> ∃ f', u.length <= f' /\ rd stop f (zbA l ++ u) = pre2 l (rd stop f' u) := by
 induction l using zaC with
 | h0 => intro u f hf; exact ⟨f, by simpa [zbA, zdl] using hf, by simp [zbA, zdl, zfy]⟩
 | h1 l hne ih =>
   intro u f hf
   rw [zcH l hne, List.append_assoc] at hf ⊢
   obtain ⟨f1, h1, e1⟩ := rd_chunk stop l _ hne f hf
   obtain ⟨f2, h2, e2⟩ := ih u f1 h1
   refine ⟨f2, h2, ?_⟩
   rw [e1, e2, zcd, zfP]
end Go.Proofs.YtbcemjhaecelnaaGreatDoor
end
end
