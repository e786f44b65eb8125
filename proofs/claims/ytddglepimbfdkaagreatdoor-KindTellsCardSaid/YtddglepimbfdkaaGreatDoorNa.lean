import Derived.Lib.MapLaws
import Derived.Test.YtddglepimbfdkaaGreatDoorProg
import Derived.WalkKit
import Derived.BigCall
import Derived.Lib.OthersKept
import Derived.Lib.Hide
import Derived.Lib.RuneBytes
import Derived.Test.YtddglepimbfdkaaGreatDoorShelf
section
/- Plain lists of bytes: a text's pieces (a rune, or a byte that is none), how they are quoted and read back. No program in it. -/

namespace Go.Proofs.YtddglepimbfdkaaGreatDoor
open Go.Lib

/-! ### the decode, by its five shapes -/
theorem decodeL_nonbad {l : List UInt8} (hne : l ≠ []) : (decodeL l).2 ≤ l.length := decodeL_le l hne

theorem getD_take (l : List UInt8) (k i : Nat) : (l.take k).getD i 0 = if i < k then l.getD i 0 else 0 := by
  simp only [List.getD, List.getElem?_take]; split <;> rfl
theorem getD_app (l u : List UInt8) (i : Nat) (h : i < l.length) : (l ++ u).getD i 0 = l.getD i 0 := by
  simp [List.getD, List.getElem?_append_left h]

theorem decodeN_inj_take (n k b0 b1 b2 b3 : Nat) (h0 : b0 < 256) (h1 : b1 < 256) (_h2 : b2 < 256) (_h3 : b3 < 256) (hk1 : 1 ≤ k) (hn : 1 ≤ n) (hk : (decodeN n b0 b1 b2 b3).2 ≤ k) :
    decodeN (min k n) b0 (if 1 < k then b1 else 0) (if 2 < k then b2 else 0) (if 3 < k then b3 else 0) = decodeN n b0 b1 b2 b3 := by
  rcases decodeN_shape n b0 b1 b2 b3 with ⟨c, e⟩ | ⟨c1, c2, c3, cv, e⟩ | ⟨c1, c2, c3, c4, cv, cs, e⟩ | ⟨c1, c2, c3, c4, c5, cv, cw, e⟩ | e
  · rw [e]; unfold decodeN; rw [if_pos c]
  · rw [e] at hk ⊢; dsimp only at hk
    rw [if_pos (by omega)]
    unfold decodeN
    rw [if_neg (by omega), if_pos ⟨c1, by omega, c3⟩, if_pos (by omega)]
  · rw [e] at hk ⊢; dsimp only at hk
    rw [if_pos (by omega), if_pos (by omega)]
    unfold decodeN
    rw [if_neg (by omega), if_neg (by omega), if_pos ⟨c1, ⟨by omega, c3⟩, by omega, c4⟩, if_pos (by omega)]
  · rw [e] at hk ⊢; dsimp only at hk
    rw [if_pos (by omega), if_pos (by omega), if_pos (by omega)]
    unfold decodeN
    rw [if_neg (by omega), if_neg (by omega), if_neg (by omega), if_pos ⟨c1, ⟨by omega, c3⟩, ⟨by omega, c4⟩, by omega, c5⟩, if_pos (by omega)]
  · rw [e]
    rcases decodeN_shape (min k n) b0 (if 1 < k then b1 else 0) (if 2 < k then b2 else 0) (if 3 < k then b3 else 0) with ⟨c, e'⟩ | ⟨c1, c2, c3, cv, e'⟩ | ⟨c1, c2, c3, c4, cv, cs, e'⟩ | ⟨c1, c2, c3, c4, c5, cv, cw, e'⟩ | e'
    · exfalso
      have : decodeN n b0 b1 b2 b3 = (b0, 1) := by unfold decodeN; rw [if_pos c]
      rw [this] at e; simp at e; omega
    · exfalso
      have g1 : 1 < k := by omega
      rw [if_pos g1] at c3 cv
      have : decodeN n b0 b1 b2 b3 = (b0 % 32 * 64 + b1 % 64, 2) := by
        unfold decodeN; rw [if_neg (by omega), if_pos ⟨c1, by omega, c3⟩, if_pos (by omega)]
      rw [this] at e; simp at e
    · exfalso
      have g1 : 1 < k := by omega
      have g2 : 2 < k := by omega
      rw [if_pos g1] at c3 cv cs; rw [if_pos g2] at c4 cv cs
      have : decodeN n b0 b1 b2 b3 = (b0 % 16 * 4096 + b1 % 64 * 64 + b2 % 64, 3) := by
        unfold decodeN; rw [if_neg (by omega), if_neg (by omega), if_pos ⟨c1, ⟨by omega, c3⟩, by omega, c4⟩, if_pos (by omega)]
      rw [this] at e; simp at e
    · exfalso
      have g1 : 1 < k := by omega
      have g2 : 2 < k := by omega
      have g3 : 3 < k := by omega
      rw [if_pos g1] at c3 cv cw; rw [if_pos g2] at c4 cv cw; rw [if_pos g3] at c5 cv cw
      have : decodeN n b0 b1 b2 b3 = (b0 % 8 * 262144 + b1 % 64 * 4096 + b2 % 64 * 64 + b3 % 64, 4) := by
        unfold decodeN; rw [if_neg (by omega), if_neg (by omega), if_neg (by omega), if_pos ⟨c1, ⟨by omega, c3⟩, ⟨by omega, c4⟩, by omega, c5⟩, if_pos (by omega)]
      rw [this] at e; simp at e
    · exact e'

/-- What is cut off behind a piece does not change it. -/
theorem decodeL_take (l : List UInt8) (k : Nat) (hne : l ≠ []) (hk : (decodeL l).2 ≤ k) : decodeL (l.take k) = decodeL l := by
  have hw := decodeL_width l
  have hl : 0 < l.length := List.length_pos_iff.2 hne
  rw [decodeL_N] at hk
  rw [decodeL_N l, decodeL_N (l.take k), List.length_take, getD_take, getD_take, getD_take, getD_take]
  have := decodeN_inj_take l.length k (l.getD 0 0).toNat (l.getD 1 0).toNat (l.getD 2 0).toNat (l.getD 3 0).toNat (l.getD 0 0).toNat_lt (l.getD 1 0).toNat_lt (l.getD 2 0).toNat_lt (l.getD 3 0).toNat_lt (by rw [← decodeL_N] at hk; omega) hl hk
  rw [← this]
  have k0 : 0 < k := by rw [← decodeL_N] at hk; omega
  rw [if_pos k0]
  congr 1 <;> split <;> rfl

/-- A piece that is a rune stays one, whatever stands behind it. -/
theorem decodeL_app (l u : List UInt8) (hne : l ≠ []) (hv : ¬ ((decodeL l).1 = 65533 ∧ (decodeL l).2 = 1)) : decodeL (l ++ u) = decodeL l := by
  have hl : 0 < l.length := List.length_pos_iff.2 hne
  rw [decodeL_N] at hv
  rw [decodeL_N l, decodeL_N (l ++ u), List.length_append]
  rcases decodeN_shape l.length (l.getD 0 0).toNat (l.getD 1 0).toNat (l.getD 2 0).toNat (l.getD 3 0).toNat with ⟨c, e⟩ | ⟨c1, c2, c3, cv, e⟩ | ⟨c1, c2, c3, c4, cv, cs, e⟩ | ⟨c1, c2, c3, c4, c5, cv, cw, e⟩ | e
  · rw [e, getD_app l u 0 hl]; unfold decodeN; rw [if_pos c]
  · rw [e, getD_app l u 0 hl, getD_app l u 1 c2]
    unfold decodeN
    rw [if_neg (by omega), if_pos ⟨c1, by omega, c3⟩, if_pos (by omega)]
  · rw [e, getD_app l u 0 hl, getD_app l u 1 (by omega), getD_app l u 2 c2]
    unfold decodeN
    rw [if_neg (by omega), if_neg (by omega), if_pos ⟨c1, ⟨by omega, c3⟩, by omega, c4⟩, if_pos (by omega)]
  · rw [e, getD_app l u 0 hl, getD_app l u 1 (by omega), getD_app l u 2 (by omega), getD_app l u 3 c2]
    unfold decodeN
    rw [if_neg (by omega), if_neg (by omega), if_neg (by omega), if_pos ⟨c1, ⟨by omega, c3⟩, ⟨by omega, c4⟩, by omega, c5⟩, if_pos (by omega)]
  · exact absurd ⟨by rw [e], by rw [e]⟩ hv

/-- A number that no text can have is U+FFFD. -/
def norm (r : Int) : Int := if r < 0 ∨ (55296 ≤ r ∧ r ≤ 57343) ∨ 1114111 < r then 65533 else r

theorem decodeL_encode (r : Int) : ((decodeL (encodeRune r)).1 : Int) = norm r ∧ (decodeL (encodeRune r)).2 = (encodeRune r).length ∧ ¬ ((decodeL (encodeRune r)).1 = 65533 ∧ (decodeL (encodeRune r)).2 = 1) := by
  rw [decodeL_N]
  unfold norm
  by_cases hb : r < 0 ∨ (55296 ≤ r ∧ r ≤ 57343) ∨ 1114111 < r
  · rw [if_pos hb]
    unfold encodeRune; rw [encodeRuneZ_bad hb]; decide
  · rw [if_neg hb]
    by_cases h1 : r ≤ 127
    · have e : encodeRune r = [r.toNat.toUInt8] := by unfold encodeRune; rw [encodeRuneZ_one (by omega) h1]; rfl
      rw [e]
      have : decodeN 1 (r.toNat % 256) 0 0 0 = (r.toNat % 256, 1) := by unfold decodeN; rw [if_pos (by omega)]
      simp only [List.length_singleton, List.getD, List.getElem?_cons_zero, Option.getD_some]
      simp [this]; omega
    · by_cases h2 : r ≤ 2047
      · have e : encodeRune r = [(192 + r / 64).toNat.toUInt8, (128 + r % 64).toNat.toUInt8] := by unfold encodeRune; rw [encodeRuneZ_two (by omega) h2]; rfl
        rw [e]
        have : decodeN 2 ((192 + r / 64).toNat % 256) ((128 + r % 64).toNat % 256) 0 0 = (r.toNat, 2) := by
          unfold decodeN; rw [if_neg (by omega), if_pos (by omega), if_pos (by omega)]; congr 1; omega
        simp [List.getD, this]; omega
      · by_cases h3 : r ≤ 65535
        · have e : encodeRune r = [(224 + r / 4096).toNat.toUInt8, (128 + r / 64 % 64).toNat.toUInt8, (128 + r % 64).toNat.toUInt8] := by unfold encodeRune; rw [encodeRuneZ_three (by omega)]; rfl
          rw [e]
          have : decodeN 3 ((224 + r / 4096).toNat % 256) ((128 + r / 64 % 64).toNat % 256) ((128 + r % 64).toNat % 256) 0 = (r.toNat, 3) := by
            unfold decodeN; rw [if_neg (by omega), if_neg (by omega), if_pos (by omega), if_pos (by omega)]; congr 1; omega
          simp [List.getD, this]; omega
        · have e : encodeRune r = [(240 + r / 262144).toNat.toUInt8, (128 + r / 4096 % 64).toNat.toUInt8, (128 + r / 64 % 64).toNat.toUInt8, (128 + r % 64).toNat.toUInt8] := by unfold encodeRune; rw [encodeRuneZ_four (by omega) (by omega)]; rfl
          rw [e]
          have : decodeN 4 ((240 + r / 262144).toNat % 256) ((128 + r / 4096 % 64).toNat % 256) ((128 + r / 64 % 64).toNat % 256) ((128 + r % 64).toNat % 256) = (r.toNat, 4) := by
            unfold decodeN; rw [if_neg (by omega), if_neg (by omega), if_neg (by omega), if_pos (by omega), if_pos (by omega)]; congr 1; omega
          simp [List.getD, this]; omega

theorem encodeRune_ne (r : Int) : encodeRune r ≠ [] := by
  have := (runeCells_le r).1; rw [runeCells_length] at this
  intro h; rw [h] at this; simp at this
theorem decodeL_encode_app (r : Int) (u : List UInt8) : ((decodeL (encodeRune r ++ u)).1 : Int) = norm r ∧ (decodeL (encodeRune r ++ u)).2 = (encodeRune r).length := by
  obtain ⟨h1, h2, h3⟩ := decodeL_encode r
  rw [decodeL_app _ u (encodeRune_ne r) h3]
  exact ⟨h1, h2⟩

/-! ### the pieces of a text: at each piece what is left from there on -/
def sufsGo : Nat → List UInt8 → List (List UInt8)
  | 0, _ => []
  | n + 1, l => if l = [] then [] else l :: sufsGo n (l.drop (decodeL l).2)
def sufs (l : List UInt8) : List (List UInt8) := sufsGo l.length l

theorem sufsGo_nil (n : Nat) : sufsGo n [] = [] := by cases n <;> simp [sufsGo]
theorem sufsGo_fuel : ∀ (n m : Nat) (l : List UInt8), l.length ≤ n → l.length ≤ m → sufsGo n l = sufsGo m l
  | 0, m, l, hn, _ => by
    have : l = [] := List.eq_nil_of_length_eq_zero (by omega)
    subst this; rw [sufsGo_nil, sufsGo_nil]
  | n + 1, 0, l, _, hm => by
    have : l = [] := List.eq_nil_of_length_eq_zero (by omega)
    subst this; rw [sufsGo_nil, sufsGo_nil]
  | n + 1, m + 1, l, hn, hm => by
    by_cases hne : l = []
    · subst hne; rw [sufsGo_nil, sufsGo_nil]
    · have hw := decodeL_width l
      have hl : 0 < l.length := List.length_pos_iff.2 hne
      simp only [sufsGo, if_neg hne]
      rw [sufsGo_fuel n m _ (by rw [List.length_drop]; omega) (by rw [List.length_drop]; omega)]
theorem sufs_nil : sufs [] = [] := rfl
theorem sufs_step (l : List UInt8) (hne : l ≠ []) : sufs l = l :: sufs (l.drop (decodeL l).2) := by
  have hw := decodeL_width l
  have hl : 0 < l.length := List.length_pos_iff.2 hne
  unfold sufs
  obtain ⟨n, hn⟩ : ∃ n, l.length = n + 1 := ⟨l.length - 1, by omega⟩
  rw [hn]
  simp only [sufsGo, if_neg hne]
  rw [sufsGo_fuel n _ _ (by rw [List.length_drop]; omega) (Nat.le_refl _)]

/-- A piece's own bytes. -/
def head (l : List UInt8) : List UInt8 := l.take (decodeL l).2
theorem head_drop (l : List UInt8) : head l ++ l.drop (decodeL l).2 = l := List.take_append_drop _ _

/-- Induction over the pieces. -/
theorem sufs_induct {P : List UInt8 → Prop} (h0 : P []) (h1 : ∀ l, l ≠ [] → P (l.drop (decodeL l).2) → P l) : ∀ l, P l := by
  have : ∀ n (l : List UInt8), l.length ≤ n → P l := by
    intro n
    induction n with
    | zero => intro l h; have : l = [] := List.eq_nil_of_length_eq_zero (by omega); subst this; exact h0
    | succ n ih =>
      intro l h
      by_cases hne : l = []
      · subst hne; exact h0
      · have hw := decodeL_width l
        have hl : 0 < l.length := List.length_pos_iff.2 hne
        exact h1 l hne (ih _ (by rw [List.length_drop]; omega))
  exact fun l => this l.length l (Nat.le_refl _)

theorem sufs_heads (l : List UInt8) : (sufs l).flatMap head = l := by
  induction l using sufs_induct with
  | h0 => rfl
  | h1 l hne ih => rw [sufs_step l hne, List.flatMap_cons, ih, head_drop]
theorem sufs_ne (l : List UInt8) : ∀ t ∈ sufs l, t ≠ [] := by
  induction l using sufs_induct with
  | h0 => intro t ht; simp [sufs_nil] at ht
  | h1 l hne ih =>
    intro t ht; rw [sufs_step l hne] at ht
    rcases List.mem_cons.1 ht with rfl | h
    · exact hne
    · exact ih t h
theorem sufs_len (l : List UInt8) : (sufs l).length ≤ l.length := by
  induction l using sufs_induct with
  | h0 => simp [sufs_nil]
  | h1 l hne ih =>
    have hw := decodeL_width l
    have hl := decodeL_le l hne
    rw [sufs_step l hne, List.length_cons]
    rw [List.length_drop] at ih; omega

/-- A text's runes. -/
def rune (t : List UInt8) : Int := ((decodeL t).1 : Int)
def spell (l : List UInt8) : List Int := (sufs l).map rune
end Go.Proofs.YtddglepimbfdkaaGreatDoor
end

section
/- Walks: what a rune is; how many there are. -/







namespace Go.Proofs.YtddglepimbfdkaaGreatDoor
open Go.RowKit

def kindZ (r : Int) : Int :=
  if r < 0 ∨ r = 65533 then 0
  else if (97 ≤ r ∧ r ≤ 122) ∨ (65 ≤ r ∧ r ≤ 90) ∨ r = 95 ∨ 128 ≤ r then 1
  else if 48 ≤ r ∧ r ≤ 57 then 2
  else if r = 32 ∨ r = 9 ∨ r = 10 then 3
  else 4

theorem ret_int {k : IntKind} {a b : Int} (h : a = b) : Ending.returned (.int k a) = .returned (.int k b) := by rw [h]

set_option maxHeartbeats 4000000 in
set_option maxRecDepth 100000 in
theorem kind_any (r : Int) (w : World) : Calls Tryz.prog 102 #[.int .i32 r] w fun e w' => e = .returned (.int .i64 (kindZ r)) ∧ w = w' := by
  go_enter Tryz.func102, Tryz.ntmps102
  go_wp2
  all_goals (go_ret; refine ⟨ret_int ?_, rfl⟩; first | rfl | skip)
  all_goals ((try simp only [beq_iff_eq, beq_eq_false_iff_ne] at *); unfold kindZ; repeat' split)
  all_goals omega

def countOf (l : List UInt8) : Nat := (sufs l).length

theorem drop_ne {s : ByteArray} {pos : Nat} (h : pos < s.size) : s.data.toList.drop pos ≠ [] := by
  intro h0
  have := congrArg List.length h0
  rw [List.length_drop, ← Lib.size_eq] at this
  simp at this; omega
theorem drop_end {s : ByteArray} {pos : Nat} (h : ¬ pos < s.size) : s.data.toList.drop pos = [] := List.drop_eq_nil_of_le (by rw [← Lib.size_eq]; omega)
/-- One piece on. -/
theorem sufs_at {s : ByteArray} {pos : Nat} (h : pos < s.size) : sufs (s.data.toList.drop pos) = s.data.toList.drop pos :: sufs (s.data.toList.drop (pos + (Utf8.decode s pos).2)) := by
  rw [sufs_step _ (drop_ne h), Lib.decodeL_drop, List.drop_drop]
theorem width1 (s : ByteArray) (pos : Nat) : 1 ≤ (Utf8.decode s pos).2 := by rw [← Lib.decodeL_drop]; exact Lib.decodeL_width _
theorem width_le {s : ByteArray} {pos : Nat} (h : pos < s.size) : pos + (Utf8.decode s pos).2 ≤ s.size := by
  have := Lib.decodeL_le _ (drop_ne h)
  rw [Lib.decodeL_drop, List.length_drop, ← Lib.size_eq] at this; omega
theorem iterPos_of {w : World} {k : Nat} {s : ByteArray} {p : Nat} (h : w.heap[k]? = some (.stringIter s p)) : w.iterPos k = p := by simp [World.iterPos, h]

end Go.Proofs.YtddglepimbfdkaaGreatDoor
end

section
/- Walks: whether a text is a name. -/

namespace Go.Proofs.YtddglepimbfdkaaGreatDoor
open Go.RowKit

def nameGo : Nat → List Int → Bool
  | n, [] => decide (0 < n)
  | n, r :: rs => if n = 30 ∨ (kindZ r ≠ 1 ∧ (kindZ r ≠ 2 ∨ n = 0)) then false else nameGo (n + 1) rs
def nameB (l : List UInt8) : Bool := nameGo 0 (spell l)

theorem spell_at {s : ByteArray} {pos : Nat} (h : pos < s.size) : spell (s.data.toList.drop pos) = ((Utf8.decode s pos).1 : Int) :: spell (s.data.toList.drop (pos + (Utf8.decode s pos).2)) := by
  unfold spell
  rw [sufs_at h, List.map_cons]
  unfold rune
  rw [Lib.decodeL_drop]
theorem spell_end {s : ByteArray} {pos : Nat} (h : ¬ pos < s.size) : spell (s.data.toList.drop pos) = [] := by rw [drop_end h]; rfl
theorem ret_bool {a b : Bool} (h : a = b) : Ending.returned (.bool a) = .returned (.bool b) := by rw [h]

theorem name_bad (k : Nat) (r : Int) (rs : List Int) (h : k = 30 ∨ (kindZ r ≠ 1 ∧ (kindZ r ≠ 2 ∨ k = 0))) : nameGo k (r :: rs) = false := by
  unfold nameGo; rw [if_pos h]
theorem name_good (k : Nat) (r : Int) (rs : List Int) (h : ¬ (k = 30 ∨ (kindZ r ≠ 1 ∧ (kindZ r ≠ 2 ∨ k = 0)))) : nameGo k (r :: rs) = nameGo (k + 1) rs := by
  rw [nameGo, if_neg h]

set_option maxHeartbeats 1000000 in
set_option maxRecDepth 100000 in
theorem name_any (s : ByteArray) (w : World) : Calls Tryz.prog 169 #[.string s] w fun e w' => e = .returned (.bool (nameB s.data.toList)) ∧ Below w.heap.size w w' := by
  go_enter Tryz.func169, Tryz.ntmps169
  go_wp2
  go_loopw [3] (fun v wr => ∃ (pos k : Nat), wr.heap[w.heap.size]? = some (.stringIter s pos) ∧ Below w.heap.size w wr ∧ v = .int .i64 k ∧ Hid (nameGo k (spell (s.data.toList.drop pos)) = nameB s.data.toList) ∧ k ≤ 30) (fun _ wr => s.size - wr.iterPos w.heap.size)
  case atStart => exact ⟨0, 0, World.iter_heap w s 0, (Below.refl _ _).alloc (Nat.le_refl _) _, rfl, (by show _ = _; simp [nameB]), by omega⟩
  case round =>
    obtain ⟨pos, k, hit, hbw, rfl, H, hk⟩ := hrel
    have hpos0 := iterPos_of hit
    by_cases hp : pos < s.size
    · have hnx : ∀ ty, (Instr.next (.pointer (some ⟨w.heap.size, 0, none⟩)) true ty).run Tryz.prog wr = _ := fun ty => Lib.run_next_any_at wr w.heap.size s pos ty hit hp
      have hwd := width1 s pos
      have hit2 := Lib.iterAt_heap wr w.heap.size s pos (pos + (Utf8.decode s pos).2) hit
      have hbw2 := Lib.below_iterAt hbw (k := w.heap.size) (Nat.le_refl _) s (pos + (Utf8.decode s pos).2)
      have H2 : Hid (nameGo k (((Utf8.decode s pos).1 : Int) :: spell (s.data.toList.drop (pos + (Utf8.decode s pos).2))) = nameB s.data.toList) := by
        show _ = _
        rw [← H.out, spell_at hp]
      clear H
      go_wp2_with (go_at_call 102; refine (kind_any _ _).mono ?_; rintro e w' ⟨rfl, rfl⟩)
      all_goals try (simp only [beq_iff_eq, beq_eq_false_iff_ne, bne_iff_ne, bne_eq_false_iff_eq, ne_eq] at *)
      all_goals first
        | (go_ret
           exact ⟨ret_bool (by rw [← H2.out, name_bad _ _ _ (by omega)]), hbw2⟩)
        | (go_roundw
           case rel => exact ⟨pos + (Utf8.decode s pos).2, k + 1, hit2, hbw2, by go_num, (by show _ = _; rw [← H2.out, name_good _ _ _ (by omega)]), by omega⟩
           case measure => rw [iterPos_of hit2, hpos0]; omega)
        | (exfalso; omega)
    · have hnx : ∀ ty, (Instr.next (.pointer (some ⟨w.heap.size, 0, none⟩)) true ty).run Tryz.prog wr = _ := fun ty => Lib.run_next_end_at wr w.heap.size s pos ty hit hp
      have H2 : Hid (decide (0 < k) = nameB s.data.toList) := by
        show _ = _
        rw [← H.out, spell_end hp]; rfl
      go_wp2
      go_ret
      exact ⟨ret_bool (by rw [← H2.out]), hbw⟩
end Go.Proofs.YtddglepimbfdkaaGreatDoor
end

section
/- How a text is gone through: as the texts of glyph have it. -/
end

section
/- Walks: how a byte that is none is written; how a text is quoted. -/


namespace Go.Proofs.YtddglepimbfdkaaGreatDoor
open Go.RowKit

def hexd (n : Nat) : UInt8 := if n < 10 then (48 + n).toUInt8 else (87 + n).toUInt8

theorem digit_at (i : Nat) (h : i < (⟨#[48, 49, 50, 51, 52, 53, 54, 55, 56, 57, 97, 98, 99, 100, 101, 102]⟩ : ByteArray).size) : (⟨#[48, 49, 50, 51, 52, 53, 54, 55, 56, 57, 97, 98, 99, 100, 101, 102]⟩ : ByteArray)[i]'h = hexd i := by
  have h16 : i < 16 := h
  have : i = 0 ∨ i = 1 ∨ i = 2 ∨ i = 3 ∨ i = 4 ∨ i = 5 ∨ i = 6 ∨ i = 7 ∨ i = 8 ∨ i = 9 ∨ i = 10 ∨ i = 11 ∨ i = 12 ∨ i = 13 ∨ i = 14 ∨ i = 15 := by omega
  rcases this with rfl | rfl | rfl | rfl | rfl | rfl | rfl | rfl | rfl | rfl | rfl | rfl | rfl | rfl | rfl | rfl <;> rfl
theorem byteCell (c : UInt8) : Lib.byteCells [c] = [.int .u8 c.toNat] := rfl

set_option maxHeartbeats 1000000 in
set_option maxRecDepth 100000 in
theorem writeByte_any (B b : Nat) (acc : List UInt8) (c : Nat) (hc : c < 256) (w : World) (h : Lib.IsBuilderF 81 5 B b (Lib.byteCells acc) w) (hlen : acc.length + 4 ≤ 140737488355328) (hBw : B ≤ w.heap.size) :
    Calls Tryz.prog 206 #[.pointer (some ⟨b, 0, none⟩), .int .u8 c] w fun e w' => e = .returned (.tuple #[]) ∧ (Lib.IsBuilderF 81 5 B b (Lib.byteCells (acc ++ [92, 120, hexd (c / 16), hexd (c % 16)])) w' ∧ Below B w w' ∧ Lib.OthersKept 5 (some b) w w') := by
  go_enter Tryz.func206, Tryz.ntmps206
  have L0 : (Lib.byteCells acc).length + (⟨#[92, 120]⟩ : ByteArray).size ≤ 140737488355328 := by rw [Lib.byteCells_length]; show _ + 2 ≤ _; omega
  go_wp2_with (go_at_call 46; refine (Tryz.Builder_WriteString_k B b _ ⟨#[92, 120]⟩ _ h L0 hBw).mono ?_)
  rintro e W1 ⟨rfl, h1, b1, k1⟩
  go_wp2_with fail
  rw [digit_at]
  refine (Tryz.Builder_WriteByte_k B b _ _ _ (.inr h1) (by rw [List.length_append, Lib.byteCells_length]; show _ + 2 + 1 ≤ _; omega) (by have := b1.size; omega)).mono ?_
  rintro e W2 ⟨rfl, h2, b2, k2⟩
  go_wp2_with fail
  rw [digit_at]
  refine (Tryz.Builder_WriteByte_k B b _ _ _ (.inr h2) (by rw [List.length_append, List.length_append, Lib.byteCells_length]; show _ + 2 + 1 + 1 ≤ _; omega) (by have := b1.size; have := b2.size; omega)).mono ?_
  rintro e W3 ⟨rfl, h3, b3, k3⟩
  go_wp2_with fail
  go_end0
  have e1 : Lib.byteCells acc ++ Lib.strCells ⟨#[92, 120]⟩ ++ [Value.int .u8 (hexd (c / 16)).toNat] ++ [Value.int .u8 (hexd (c % 16)).toNat] = Lib.byteCells (acc ++ [92, 120, hexd (c / 16), hexd (c % 16)]) := by
    rw [Lib.byteCells_append, List.append_assoc, List.append_assoc]; rfl
  rw [e1] at h3
  exact ⟨rfl, .inr h3, (b1.trans b2).trans b3, (k1.trans k2).trans k3⟩
end Go.Proofs.YtddglepimbfdkaaGreatDoor
end

section
/- A walk: how a text is quoted. -/

namespace Go.Proofs.YtddglepimbfdkaaGreatDoor
open Go.RowKit

/-- How one piece is written. -/
def chunkQ (t : List UInt8) : List UInt8 :=
  if (Lib.decodeL t).1 = 34 ∨ (Lib.decodeL t).1 = 92 then 92 :: Lib.encodeRune ((Lib.decodeL t).1 : Int)
  else if (Lib.decodeL t).1 = 10 then [92, 110]
  else if (Lib.decodeL t).1 = 65533 ∧ (Lib.decodeL t).2 = 1 then [92, 120, hexd ((t.getD 0 0).toNat / 16), hexd ((t.getD 0 0).toNat % 16)]
  else Lib.encodeRune ((Lib.decodeL t).1 : Int)
def bodyQ (l : List UInt8) : List UInt8 := (sufs l).flatMap chunkQ
def quoteL (l : List UInt8) : List UInt8 := 34 :: (bodyQ l ++ [34])

theorem chunkQ_len (t : List UInt8) : (chunkQ t).length ≤ 5 := by
  have := (Lib.encodeRuneZ_length ((Lib.decodeL t).1 : Int)).2
  have h : (Lib.encodeRune ((Lib.decodeL t).1 : Int)).length ≤ 4 := by simpa [Lib.encodeRune] using this
  unfold chunkQ
  split
  · simp; omega
  · split
    · simp
    · split
      · simp
      · omega

theorem sufs_at_flat {s : ByteArray} {pos : Nat} (h : pos < s.size) : bodyQ (s.data.toList.drop pos) = chunkQ (s.data.toList.drop pos) ++ bodyQ (s.data.toList.drop (pos + (Utf8.decode s pos).2)) := by
  unfold bodyQ; rw [sufs_at h, List.flatMap_cons]

/-- 0xFFFD as it should be, or a byte that is none. -/
theorem bad_iff (t : List UInt8) (hne : t ≠ []) (h : (Lib.decodeL t).1 = 65533) : (Lib.decodeL t).2 = 1 ↔ ¬ [239, 191, 189] <+: t := by
  constructor
  · intro hw hp
    obtain ⟨u, rfl⟩ := hp
    have := decodeL_encode_app 65533 u
    have e : Lib.encodeRune 65533 = [239, 191, 189] := by decide
    rw [e] at this
    rw [hw] at this
    exact absurd this.2 (by decide)
  · intro hp
    false_or_by_contra
    rename_i hw
    have hv : ¬ ((Lib.decodeL t).1 = 65533 ∧ (Lib.decodeL t).2 = 1) := fun x => hw x.2
    have e := Lib.encode_decode t hne hv
    rw [h] at e
    have e' : Lib.encodeRune ((65533 : Nat) : Int) = [239, 191, 189] := by decide
    rw [e'] at e
    exact hp (by rw [e]; exact List.take_prefix _ _)

theorem ret_str {a b : List UInt8} (h : a = b) : Ending.returned (.string ⟨a.toArray⟩) = .returned (.string ⟨b.toArray⟩) := by rw [h]

set_option maxHeartbeats 2000000 in
set_option maxRecDepth 100000 in
theorem quote_any (s : ByteArray) (w : World) (hs : s.size ≤ 1099511627776) :
    Calls Tryz.prog 189 #[.string s] w fun e w' => e = .returned (.string ⟨(quoteL s.data.toList).toArray⟩) ∧ Below w.heap.size w w' := by
  go_enter Tryz.func189, Tryz.ntmps189
  have hI0 := Lib.IsBuilderF.of (Lib.fresh_isBuilder 81 5 w)
  go_wp2_with (go_at_call 158; refine (Tryz.Builder_WriteByte_k w.heap.size w.heap.size [] 34 _ hI0 (by simp) (by simp)).mono ?_)
  rintro e W0 ⟨rfl, h0, b0, k0⟩
  have hb0 : Below w.heap.size w W0 := ((Below.refl _ w).alloc (Nat.le_refl _) _).trans b0
  have hz0 : w.heap.size < W0.heap.size := by have := b0.size; simp at this; omega
  have hI1 : Lib.IsBuilderF 81 5 w.heap.size w.heap.size (Lib.byteCells [34]) W0 := .inr h0
  clear h0 hI0 k0 b0
  go_wp2
  obtain ⟨K, hK⟩ : ∃ K, K = W0.heap.size := ⟨_, rfl⟩
  go_loopw [] (fun wr => ∃ (pos : Nat) (acc : List UInt8), Lib.IsBuilderF 81 5 w.heap.size w.heap.size (Lib.byteCells acc) wr ∧ wr.heap[W0.heap.size]? = some (.stringIter s pos) ∧ Below w.heap.size w wr ∧ Hid (acc ++ (bodyQ (s.data.toList.drop pos) ++ [34]) = quoteL s.data.toList) ∧ pos ≤ s.size ∧ acc.length ≤ 5 * pos + 1) (fun wr => s.size - wr.iterPos W0.heap.size)
  case atStart =>
    refine ⟨0, [34], hI1.alloc _, World.iter_heap W0 s 0, hb0.alloc (by omega) _, ?_, Nat.zero_le _, by simp⟩
    show _ = _
    simp [quoteL]
  case round =>
    obtain ⟨pos, acc, hI, hit, hbw, H, hps, hal⟩ := hrel
    have hpos0 := iterPos_of hit
    have hsz : W0.heap.size < wr.heap.size := (Array.getElem?_eq_some_iff.1 hit).1
    by_cases hp : pos < s.size
    · have hnx : ∀ ty, (Instr.next (.pointer (some ⟨W0.heap.size, 0, none⟩)) true ty).run Tryz.prog wr = _ := fun ty => Lib.run_next_any_at wr W0.heap.size s pos ty hit hp
      have hwd := width1 s pos
      have hwl := width_le hp
      have hd1 := decode_le s pos
      have hI2 := hI.iterAt hit (pos + (Utf8.decode s pos).2)
      have hit2 := Lib.iterAt_heap wr W0.heap.size s pos (pos + (Utf8.decode s pos).2) hit
      have hbw2 := Lib.below_iterAt hbw (k := W0.heap.size) (by omega) s (pos + (Utf8.decode s pos).2)
      have hsz2 : w.heap.size ≤ (wr.iterAt W0.heap.size s (pos + (Utf8.decode s pos).2)).heap.size := by rw [Lib.iterAt_size]; omega
      have H2 : Hid ((acc ++ chunkQ (s.data.toList.drop pos)) ++ (bodyQ (s.data.toList.drop (pos + (Utf8.decode s pos).2)) ++ [34]) = quoteL s.data.toList) := by
        show _ = _
        rw [← H.out, sufs_at_flat hp]; simp
      clear H
      have hcl := chunkQ_len (s.data.toList.drop pos)
      have hr0 : (-2147483648 : Int) ≤ ((Utf8.decode s pos).1 : Int) := by omega
      have hr1 : ((Utf8.decode s pos).1 : Int) ≤ 2147483647 := by omega
      have hlen : (Lib.byteCells acc).length + 8 ≤ 140737488355328 := by rw [Lib.byteCells_length]; omega
      by_cases h34 : (Utf8.decode s pos).1 = 34 ∨ (Utf8.decode s pos).1 = 92
      · have E : Hid (Lib.byteCells acc ++ [.int .u8 92] ++ Lib.runeCells ((Utf8.decode s pos).1 : Int) = Lib.byteCells (acc ++ chunkQ (s.data.toList.drop pos))) := by
          show _ = _
          unfold chunkQ; rw [Lib.decodeL_drop, if_pos h34, ← Lib.byteCells_encodeRune, List.append_assoc, Lib.byteCells_append]; rfl
        have t : ((((Utf8.decode s pos).1 : Int) == 34) = true) ∨ ((((Utf8.decode s pos).1 : Int) == 34) = false ∧ (((Utf8.decode s pos).1 : Int) == 92) = true) := by
          simp only [beq_iff_eq, beq_eq_false_iff_ne]; omega
        clear h34
        rcases t with t | ⟨t, t'⟩
        all_goals
          go_wp2_with (go_at_call 158; refine (Tryz.Builder_WriteByte_k w.heap.size w.heap.size _ 92 _ hI2 (by omega) hsz2).mono ?_)
          rintro e W1 ⟨rfl, h1, b1, k1⟩
          go_wp2_with (go_at_call 204; refine (Tryz.Builder_WriteRune_k w.heap.size w.heap.size _ _ hr0 hr1 _ (.inr h1) (by rw [List.length_append]; show _ + 1 + 4 ≤ _; omega) (by have := b1.size; omega)).mono ?_)
          rintro e W2 ⟨rfl, h2, b2, k2⟩
          have hF := h2
          have bF := b1.trans b2
          have kF := k1.trans k2
          clear h1 b1 k1 h2 b2 k2
          go_wp2
          go_roundw
          case rel => exact ⟨pos + (Utf8.decode s pos).2, acc ++ chunkQ (s.data.toList.drop pos), by first | (rw [← E.out]; exact .inr hF) | (rw [← E.out]; exact hF), kF.iter hit2 (by omega), hbw2.trans bF, H2, hwl, by rw [List.length_append]; omega⟩
          case measure => rw [iterPos_of (kF.iter hit2 (by omega)), hpos0]; omega
      · have t34 : (((Utf8.decode s pos).1 : Int) == 34) = false := by rw [beq_eq_false_iff_ne]; omega
        have t92 : (((Utf8.decode s pos).1 : Int) == 92) = false := by rw [beq_eq_false_iff_ne]; omega
        by_cases h10 : (Utf8.decode s pos).1 = 10
        · have E : Hid (Lib.byteCells acc ++ Lib.strCells ⟨#[92, 110]⟩ = Lib.byteCells (acc ++ chunkQ (s.data.toList.drop pos))) := by
            show _ = _
            unfold chunkQ; rw [Lib.decodeL_drop, if_neg h34, if_pos h10, Lib.byteCells_append]; rfl
          have t10 : (((Utf8.decode s pos).1 : Int) == 10) = true := by rw [beq_iff_eq]; omega
          have hL : (Lib.byteCells acc).length + (⟨#[92, 110]⟩ : ByteArray).size ≤ 140737488355328 := by show _ + 2 ≤ _; omega
          clear h34 h10
          go_wp2_with (go_at_call 46; refine (Tryz.Builder_WriteString_k w.heap.size w.heap.size _ ⟨#[92, 110]⟩ _ hI2 hL hsz2).mono ?_)
          rintro e W1 ⟨rfl, hF, bF, kF⟩
          go_wp2
          go_roundw
          case rel => exact ⟨pos + (Utf8.decode s pos).2, acc ++ chunkQ (s.data.toList.drop pos), by first | (rw [← E.out]; exact .inr hF) | (rw [← E.out]; exact hF), kF.iter hit2 (by omega), hbw2.trans bF, H2, hwl, by rw [List.length_append]; omega⟩
          case measure => rw [iterPos_of (kF.iter hit2 (by omega)), hpos0]; omega
        · have t10 : (((Utf8.decode s pos).1 : Int) == 10) = false := by rw [beq_eq_false_iff_ne]; omega
          by_cases hbad : (Utf8.decode s pos).1 = 65533
          · have tb : (((Utf8.decode s pos).1 : Int) == 65533) = true := by rw [beq_iff_eq]; omega
            have hx : (s.extract pos s.size).data.toList = s.data.toList.drop pos := by rw [Lib.extract_data, Lib.size_eq, List.take_of_length_le (by rw [List.length_drop]; omega)]
            have cH := Tryz.strings_HasPrefix (s.extract pos s.size) ⟨#[239, 191, 189]⟩ (wr.iterAt W0.heap.size s (pos + (Utf8.decode s pos).2))
            rw [hx] at cH
            have hbi := bad_iff (s.data.toList.drop pos) (drop_ne hp) (by rw [Lib.decodeL_drop]; exact hbad)
            cases hpf : Lib.hasPrefix (s.data.toList.drop pos) [239, 191, 189] with
            | true =>
              have hnw : ¬ (Lib.decodeL (s.data.toList.drop pos)).2 = 1 := by
                intro h; exact hbi.1 h (by unfold Lib.hasPrefix at hpf; exact List.isPrefixOf_iff_prefix.1 hpf)
              have E : Hid (Lib.byteCells acc ++ Lib.runeCells ((Utf8.decode s pos).1 : Int) = Lib.byteCells (acc ++ chunkQ (s.data.toList.drop pos))) := by
                show _ = _
                rw [Lib.decodeL_drop] at hnw
                unfold chunkQ; rw [Lib.decodeL_drop, if_neg h34, if_neg h10, if_neg (fun x => hnw x.2), Lib.byteCells_append, Lib.byteCells_encodeRune]
              have CH := Lib.hid (show Calls Tryz.prog 205 #[.string (s.extract pos s.size), .string ⟨#[239, 191, 189]⟩] (wr.iterAt W0.heap.size s (pos + (Utf8.decode s pos).2)) fun e w' => e = .returned (.bool true) ∧ w' = (wr.iterAt W0.heap.size s (pos + (Utf8.decode s pos).2)) by rw [← hpf]; exact cH)
              clear h34 h10 hbad hbi hnw hpf cH hx
              go_wp2_with (go_at_call 205; refine CH.out.mono ?_)
              rintro e w' ⟨rfl, rfl⟩
              go_wp2_with (go_at_call 204; refine (Tryz.Builder_WriteRune_k w.heap.size w.heap.size _ _ hr0 hr1 _ hI2 (by omega) hsz2).mono ?_)
              rintro e W1 ⟨rfl, hF, bF, kF⟩
              go_wp2
              go_roundw
              case rel => exact ⟨pos + (Utf8.decode s pos).2, acc ++ chunkQ (s.data.toList.drop pos), by first | (rw [← E.out]; exact .inr hF) | (rw [← E.out]; exact hF) | exact hF, kF.iter hit2 (by omega), hbw2.trans bF, H2, hwl, by rw [List.length_append]; omega⟩
              case measure => rw [iterPos_of (kF.iter hit2 (by omega)), hpos0]; omega
            | false =>
              have hyw : (Lib.decodeL (s.data.toList.drop pos)).2 = 1 := by
                refine hbi.2 (fun h => ?_)
                unfold Lib.hasPrefix at hpf
                rw [List.isPrefixOf_iff_prefix.2 h] at hpf; cases hpf
              have hg0 : (s.data.toList.drop pos).getD 0 0 = s[pos] := by
                rw [Lib.getD_dropU, Nat.add_zero]; simp [List.getD, hp]; rfl
              have E : Hid (acc ++ [92, 120, hexd (s[pos].toNat / 16), hexd (s[pos].toNat % 16)] = acc ++ chunkQ (s.data.toList.drop pos)) := by
                show _ = _
                rw [Lib.decodeL_drop] at hyw
                unfold chunkQ; rw [Lib.decodeL_drop, if_neg h34, if_neg h10, if_pos ⟨hbad, hyw⟩, hg0]
              have CH := Lib.hid (show Calls Tryz.prog 205 #[.string (s.extract pos s.size), .string ⟨#[239, 191, 189]⟩] (wr.iterAt W0.heap.size s (pos + (Utf8.decode s pos).2)) fun e w' => e = .returned (.bool false) ∧ w' = (wr.iterAt W0.heap.size s (pos + (Utf8.decode s pos).2)) by rw [← hpf]; exact cH)
              have hlt := s[pos].toNat_lt
              clear h34 h10 hbad hbi hyw hpf cH hx hg0
              go_wp2_with (go_at_call 205; refine CH.out.mono ?_)
              rintro e w' ⟨rfl, rfl⟩
              go_wp2_with (go_at_call 206; refine (writeByte_any w.heap.size w.heap.size acc s[pos].toNat (by omega) _ hI2 (by rw [Lib.byteCells_length] at hlen; omega) hsz2).mono ?_)
              rintro e W1 ⟨rfl, hF, bF, kF⟩
              go_wp2
              go_roundw
              case rel => exact ⟨pos + (Utf8.decode s pos).2, acc ++ chunkQ (s.data.toList.drop pos), by first | (rw [← E.out]; exact .inr hF) | (rw [← E.out]; exact hF) | exact hF, kF.iter hit2 (by omega), hbw2.trans bF, H2, hwl, by rw [List.length_append]; omega⟩
              case measure => rw [iterPos_of (kF.iter hit2 (by omega)), hpos0]; omega
          · have tb : (((Utf8.decode s pos).1 : Int) == 65533) = false := by rw [beq_eq_false_iff_ne]; omega
            have E : Hid (Lib.byteCells acc ++ Lib.runeCells ((Utf8.decode s pos).1 : Int) = Lib.byteCells (acc ++ chunkQ (s.data.toList.drop pos))) := by
              show _ = _
              unfold chunkQ; rw [Lib.decodeL_drop, if_neg h34, if_neg h10, if_neg (fun x => hbad x.1), Lib.byteCells_append, Lib.byteCells_encodeRune]
            clear h34 h10 hbad
            go_wp2_with (go_at_call 204; refine (Tryz.Builder_WriteRune_k w.heap.size w.heap.size _ _ hr0 hr1 _ hI2 (by omega) hsz2).mono ?_)
            rintro e W1 ⟨rfl, hF, bF, kF⟩
            go_wp2
            go_roundw
            case rel => exact ⟨pos + (Utf8.decode s pos).2, acc ++ chunkQ (s.data.toList.drop pos), by first | (rw [← E.out]; exact .inr hF) | (rw [← E.out]; exact hF), kF.iter hit2 (by omega), hbw2.trans bF, H2, hwl, by rw [List.length_append]; omega⟩
            case measure => rw [iterPos_of (kF.iter hit2 (by omega)), hpos0]; omega
    · have hnx : ∀ ty, (Instr.next (.pointer (some ⟨W0.heap.size, 0, none⟩)) true ty).run Tryz.prog wr = _ := fun ty => Lib.run_next_end_at wr W0.heap.size s pos ty hit hp
      have H2 : Hid (acc ++ [34] = quoteL s.data.toList) := by
        show _ = _
        rw [← H.out, drop_end hp]; rfl
      clear H
      go_wp2_with (go_at_call 158; refine (Tryz.Builder_WriteByte_k w.heap.size w.heap.size _ 34 _ hI (by rw [Lib.byteCells_length]; omega) (by omega)).mono ?_)
      rintro e W1 ⟨rfl, h1, b1, k1⟩
      have h1' : Lib.IsBuilderF 81 5 w.heap.size w.heap.size (Lib.byteCells (acc ++ [34])) W1 := by rw [Lib.byteCells_append]; exact .inr h1
      go_wp2_with (go_at_call 48; refine (Tryz.Builder_String_any_k w.heap.size w.heap.size (acc ++ [34]) _ h1' (by have := b1.size; omega)).mono ?_)
      rintro e W2 ⟨rfl, _, b2, _⟩
      go_wp2
      go_ret
      exact ⟨ret_str H2.out, (hbw.trans b1).trans b2⟩
end Go.Proofs.YtddglepimbfdkaaGreatDoor
end

section
/- A walk: how many runes there are. -/

namespace Go.Proofs.YtddglepimbfdkaaGreatDoor
open Go.RowKit

set_option maxHeartbeats 1000000 in
set_option maxRecDepth 100000 in
theorem count_any (s : ByteArray) (w : World) (hs : s.size ≤ maxLen) : Calls Tryz.prog 260 #[.string s] w fun e w' => e = .returned (.int .i64 (countOf s.data.toList : Nat)) ∧ Below w.heap.size w w' := by
  unfold maxLen at hs
  go_enter Tryz.func260, Tryz.ntmps260
  go_wp2
  go_loopw [3] (fun v wr => ∃ (pos k : Nat), wr.heap[w.heap.size]? = some (.stringIter s pos) ∧ Below w.heap.size w wr ∧ v = .int .i64 k ∧ Hid (k + (sufs (s.data.toList.drop pos)).length = countOf s.data.toList) ∧ k ≤ pos ∧ pos ≤ s.size) (fun _ wr => s.size - wr.iterPos w.heap.size)
  case atStart => exact ⟨0, 0, World.iter_heap w s 0, (Below.refl _ _).alloc (Nat.le_refl _) _, rfl, (by show _ = _; simp [countOf]), Nat.le_refl _, Nat.zero_le _⟩
  case round =>
    obtain ⟨pos, k, hit, hbw, rfl, H, hk, hps⟩ := hrel
    have hpos0 := iterPos_of hit
    by_cases hp : pos < s.size
    · have hnx : ∀ ty, (Instr.next (.pointer (some ⟨w.heap.size, 0, none⟩)) true ty).run Tryz.prog wr = _ := fun ty => Lib.run_next_any_at wr w.heap.size s pos ty hit hp
      have hwd := width1 s pos
      have hwl := width_le hp
      have hit2 := Lib.iterAt_heap wr w.heap.size s pos (pos + (Utf8.decode s pos).2) hit
      have hbw2 := Lib.below_iterAt hbw (k := w.heap.size) (Nat.le_refl _) s (pos + (Utf8.decode s pos).2)
      have H2 : Hid (k + 1 + (sufs (s.data.toList.drop (pos + (Utf8.decode s pos).2))).length = countOf s.data.toList) := by
        show _ = _
        rw [← H.out, sufs_at hp, List.length_cons]; omega
      go_wp2
      go_roundw
      case rel => exact ⟨pos + (Utf8.decode s pos).2, k + 1, hit2, hbw2, by go_num, H2, by omega, hwl⟩
      case measure => rw [iterPos_of hit2, hpos0]; omega
    · have hnx : ∀ ty, (Instr.next (.pointer (some ⟨w.heap.size, 0, none⟩)) true ty).run Tryz.prog wr = _ := fun ty => Lib.run_next_end_at wr w.heap.size s pos ty hit hp
      have H2 : Hid (k = countOf s.data.toList) := by
        show _ = _
        rw [← H.out, drop_end hp]; simp [sufs_nil]
      go_wp2
      go_ret
      exact ⟨ret_int (by rw [H2.out]), hbw⟩

end Go.Proofs.YtddglepimbfdkaaGreatDoor
end

section
/- Runes counted: as the texts of glyph have it. -/
end

section
/- Plain: what is in quotation marks is read back, byte by byte and piece by piece. -/

namespace Go.Proofs.YtddglepimbfdkaaGreatDoor
open Go.RowKit

def hexR (b : Nat) : Option Nat := if 48 ≤ b ∧ b ≤ 57 then some (b - 48) else if 97 ≤ b ∧ b ≤ 102 then some (b - 87) else none
def pre2 (x : List UInt8) (o : Option (List UInt8 × List UInt8)) : Option (List UInt8 × List UInt8) := o.map fun p => (x ++ p.1, p.2)
def rdX (k : List UInt8 → Option (List UInt8 × List UInt8)) : List UInt8 → Option (List UInt8 × List UInt8)
  | h :: l :: r => match hexR h.toNat with
    | none => none
    | some a => match hexR l.toNat with
      | none => none
      | some b => pre2 [(16 * a + b).toUInt8] (k r)
  | _ => none
/-- Byte by byte; where 'stop' is true up to the first bare quotation mark. -/
def rd (stop : Bool) : Nat → List UInt8 → Option (List UInt8 × List UInt8)
  | 0, _ => if stop then none else some ([], [])
  | _ + 1, [] => if stop then none else some ([], [])
  | f + 1, c :: r =>
    if stop = true ∧ c = 34 then some ([], r)
    else if c ≠ 92 then pre2 [c] (rd stop f r)
    else match r with
      | [] => none
      | d :: r2 =>
        if d = 34 ∨ d = 92 then pre2 [d] (rd stop f r2)
        else if d = 110 then pre2 [10] (rd stop f r2)
        else if d = 120 then rdX (rd stop f) r2
        else none

theorem rd_cons (stop : Bool) (f : Nat) (c : UInt8) (r : List UInt8) : rd stop (f + 1) (c :: r) =
    if stop = true ∧ c = 34 then some ([], r)
    else if c ≠ 92 then pre2 [c] (rd stop f r)
    else match r with
      | [] => none
      | d :: r2 =>
        if d = 34 ∨ d = 92 then pre2 [d] (rd stop f r2)
        else if d = 110 then pre2 [10] (rd stop f r2)
        else if d = 120 then rdX (rd stop f) r2
        else none := rfl
theorem pre2_nil (o : Option (List UInt8 × List UInt8)) : pre2 [] o = o := by cases o <;> simp [pre2]
theorem pre2_pre2 (x y : List UInt8) (o : Option (List UInt8 × List UInt8)) : pre2 x (pre2 y o) = pre2 (x ++ y) o := by cases o <;> simp [pre2]

theorem rd_plain (stop : Bool) : ∀ (xs u : List UInt8) (f : Nat), (∀ x ∈ xs, x ≠ 34 ∧ x ≠ 92) → (xs ++ u).length ≤ f → ∃ f', u.length ≤ f' ∧ rd stop f (xs ++ u) = pre2 xs (rd stop f' u)
  | [], u, f, _, hf => ⟨f, hf, by simp [pre2_nil]⟩
  | x :: xs, u, f, h, hf => by
    obtain ⟨f, rfl⟩ : ∃ g, f = g + 1 := ⟨f - 1, by simp at hf; omega⟩
    obtain ⟨h1, h2⟩ := h x (by simp)
    obtain ⟨f', hf', e⟩ := rd_plain stop xs u f (fun y hy => h y (by simp [hy])) (by simp at hf ⊢; omega)
    refine ⟨f', hf', ?_⟩
    rw [List.cons_append, rd_cons, if_neg (fun hx => h1 hx.2), if_pos h2, e, pre2_pre2]; rfl

theorem hexR_hexd : ∀ n, n < 16 → hexR (hexd n).toNat = some n := by decide
theorem hexd_small : ∀ n, n < 16 → (hexd n).toNat < 128 := by decide
theorem byte16 (c : UInt8) : (16 * (c.toNat / 16) + c.toNat % 16).toUInt8 = c := by
  have : 16 * (c.toNat / 16) + c.toNat % 16 = c.toNat := by omega
  rw [this]; simp

/-- A piece by its kind. -/
theorem chunk_kinds (t : List UInt8) (hne : t ≠ []) :
    ((Lib.decodeL t).1 = 34 ∧ chunkQ t = [92, 34] ∧ head t = [34]) ∨ ((Lib.decodeL t).1 = 92 ∧ chunkQ t = [92, 92] ∧ head t = [92]) ∨ ((Lib.decodeL t).1 = 10 ∧ chunkQ t = [92, 110] ∧ head t = [10]) ∨
    ((Lib.decodeL t).1 = 65533 ∧ (Lib.decodeL t).2 = 1 ∧ chunkQ t = [92, 120, hexd ((t.getD 0 0).toNat / 16), hexd ((t.getD 0 0).toNat % 16)] ∧ head t = [t.getD 0 0]) ∨
    (((Lib.decodeL t).1 ≠ 34 ∧ (Lib.decodeL t).1 ≠ 92 ∧ (Lib.decodeL t).1 ≠ 10) ∧ ¬ ((Lib.decodeL t).1 = 65533 ∧ (Lib.decodeL t).2 = 1) ∧ chunkQ t = Lib.encodeRune ((Lib.decodeL t).1 : Int) ∧ head t = Lib.encodeRune ((Lib.decodeL t).1 : Int)) := by
  have hv := Lib.encode_decode t hne
  by_cases h1 : (Lib.decodeL t).1 = 34
  · refine .inl ⟨h1, ?_, ?_⟩
    · unfold chunkQ; rw [if_pos (.inl h1), h1]; decide
    · unfold head; rw [← hv (by omega), h1]; decide
  · by_cases h2 : (Lib.decodeL t).1 = 92
    · refine .inr (.inl ⟨h2, ?_, ?_⟩)
      · unfold chunkQ; rw [if_pos (.inr h2), h2]; decide
      · unfold head; rw [← hv (by omega), h2]; decide
    · by_cases h3 : (Lib.decodeL t).1 = 10
      · refine .inr (.inr (.inl ⟨h3, ?_, ?_⟩))
        · unfold chunkQ; rw [if_neg (by omega), if_pos h3]
        · unfold head; rw [← hv (by omega), h3]; decide
      · by_cases h4 : (Lib.decodeL t).1 = 65533 ∧ (Lib.decodeL t).2 = 1
        · refine .inr (.inr (.inr (.inl ⟨h4.1, h4.2, ?_, ?_⟩)))
          · unfold chunkQ; rw [if_neg (by omega), if_neg h3, if_pos h4]
          · unfold head; rw [h4.2, Lib.takeA t (List.length_pos_iff.2 hne)]
        · refine .inr (.inr (.inr (.inr ⟨⟨h1, h2, h3⟩, h4, ?_, ?_⟩)))
          · unfold chunkQ; rw [if_neg (by omega), if_neg h3, if_neg h4]
          · unfold head; rw [hv h4]

theorem encode_plain (r : Nat) (h1 : r ≠ 34) (h2 : r ≠ 92) : ∀ x ∈ Lib.encodeRune (r : Int), x ≠ 34 ∧ x ≠ 92 := by
  have key : ∀ z : Int, 0 ≤ z → z < 256 → z ≠ 34 → z ≠ 92 → z.toNat.toUInt8 ≠ 34 ∧ z.toNat.toUInt8 ≠ 92 := by
    intro z h0 h256 ha hb
    constructor
    · intro h
      have := congrArg UInt8.toNat h
      simp at this; omega
    · intro h
      have := congrArg UInt8.toNat h
      simp at this; omega
  unfold Lib.encodeRune Lib.encodeRuneZ
  intro x hx
  split at hx
  · simp only [List.map_cons, List.map_nil, List.mem_singleton] at hx
    rw [hx]; exact key _ (by omega) (by omega) (by omega) (by omega)
  · split at hx
    · simp only [List.map_cons, List.map_nil, List.mem_cons, List.not_mem_nil, or_false] at hx
      rcases hx with hx | hx <;> (rw [hx]; exact key _ (by omega) (by omega) (by omega) (by omega))
    · split at hx
      · simp only [List.map_cons, List.map_nil, List.mem_cons, List.not_mem_nil, or_false] at hx
        rcases hx with hx | hx | hx <;> (rw [hx]; exact key _ (by omega) (by omega) (by omega) (by omega))
      · split at hx
        · simp only [List.map_cons, List.map_nil, List.mem_cons, List.not_mem_nil, or_false] at hx
          rcases hx with hx | hx | hx | hx <;> (rw [hx]; exact key _ (by omega) (by omega) (by omega) (by omega))
        · simp only [List.map_cons, List.map_nil, List.mem_cons, List.not_mem_nil, or_false] at hx
          rcases hx with hx | hx | hx <;> (rw [hx]; decide)

theorem rd_chunk (stop : Bool) (t u : List UInt8) (hne : t ≠ []) (f : Nat) (hf : (chunkQ t ++ u).length ≤ f) : ∃ f', u.length ≤ f' ∧ rd stop f (chunkQ t ++ u) = pre2 (head t) (rd stop f' u) := by
  rcases chunk_kinds t hne with ⟨_, hc, hh⟩ | ⟨_, hc, hh⟩ | ⟨_, hc, hh⟩ | ⟨_, _, hc, hh⟩ | ⟨⟨k1, k2, _⟩, _, hc, hh⟩
  · rw [hc] at hf ⊢; rw [hh]
    obtain ⟨f, rfl⟩ : ∃ g, f = g + 1 := ⟨f - 1, by simp at hf; omega⟩
    exact ⟨f, by simp at hf; omega, by simp [rd]⟩
  · rw [hc] at hf ⊢; rw [hh]
    obtain ⟨f, rfl⟩ : ∃ g, f = g + 1 := ⟨f - 1, by simp at hf; omega⟩
    exact ⟨f, by simp at hf; omega, by simp [rd]⟩
  · rw [hc] at hf ⊢; rw [hh]
    obtain ⟨f, rfl⟩ : ∃ g, f = g + 1 := ⟨f - 1, by simp at hf; omega⟩
    exact ⟨f, by simp at hf; omega, by simp [rd]⟩
  · rw [hc] at hf ⊢; rw [hh]
    obtain ⟨f, rfl⟩ : ∃ g, f = g + 1 := ⟨f - 1, by simp at hf; omega⟩
    have hb := (t.getD 0 0).toNat_lt
    refine ⟨f, by simp at hf; omega, ?_⟩
    generalize t.getD 0 0 = c at hb ⊢
    have e1 := hexR_hexd (c.toNat / 16) (by omega)
    have e2 := hexR_hexd (c.toNat % 16) (by omega)
    simp only [List.cons_append, List.nil_append, rd_cons]
    rw [if_neg (fun h => absurd h.2 (by decide)), if_neg (by decide), if_neg (by decide), if_neg (by decide), if_pos (by decide), rdX, e1]
    dsimp only
    rw [e2]
    dsimp only
    rw [byte16]
  · rw [hc] at hf ⊢; rw [hh]
    exact rd_plain stop _ u f (encode_plain _ k1 k2) hf

theorem bodyQ_step (l : List UInt8) (hne : l ≠ []) : bodyQ l = chunkQ l ++ bodyQ (l.drop (Lib.decodeL l).2) := by
  unfold bodyQ; rw [sufs_step l hne, List.flatMap_cons]

theorem rd_body (stop : Bool) (l : List UInt8) : ∀ (u : List UInt8) (f : Nat), (bodyQ l ++ u).length ≤ f → ∃ f', u.length ≤ f' ∧ rd stop f (bodyQ l ++ u) = pre2 l (rd stop f' u) := by
  induction l using sufs_induct with
  | h0 => intro u f hf; exact ⟨f, by simpa [bodyQ, sufs_nil] using hf, by simp [bodyQ, sufs_nil, pre2_nil]⟩
  | h1 l hne ih =>
    intro u f hf
    rw [bodyQ_step l hne, List.append_assoc] at hf ⊢
    obtain ⟨f1, h1, e1⟩ := rd_chunk stop l _ hne f hf
    obtain ⟨f2, h2, e2⟩ := ih u f1 h1
    refine ⟨f2, h2, ?_⟩
    rw [e1, e2, pre2_pre2, head_drop]

theorem rd_quote (l rest : List UInt8) (f : Nat) (hf : (bodyQ l ++ 34 :: rest).length ≤ f) : rd true f (bodyQ l ++ 34 :: rest) = some (l, rest) := by
  obtain ⟨f', h1, e⟩ := rd_body true l (34 :: rest) f hf
  obtain ⟨g, rfl⟩ : ∃ g, f' = g + 1 := ⟨f' - 1, by simp at h1; omega⟩
  rw [e]
  simp [rd, pre2]

theorem quote_prefix {a b rest : List UInt8} (h : quoteL b = quoteL a ++ rest) : a = b ∧ rest = [] := by
  unfold quoteL at h
  rw [List.cons_append, List.append_assoc] at h
  have h' := (List.cons.inj h).2
  have e1 := rd_quote b [] _ (Nat.le_refl _)
  rw [h'] at e1
  have e2 := rd_quote a rest (bodyQ a ++ ([34] ++ rest)).length (Nat.le_refl _)
  have e3 : bodyQ a ++ 34 :: rest = bodyQ a ++ ([34] ++ rest) := rfl
  rw [e3] at e2
  rw [e2] at e1
  injection e1 with e1
  injection e1 with e1 e4
  exact ⟨e1, e4⟩
theorem quote_inj {a b : List UInt8} : quoteL a = quoteL b ↔ a = b :=
  ⟨fun h => (quote_prefix (rest := []) (by rw [List.append_nil]; exact h.symm)).1, fun h => by rw [h]⟩
theorem quote_begins {a b : List UInt8} (h : (quoteL a).length < (quoteL b).length) : ¬ (quoteL b).take (quoteL a).length = quoteL a := by
  intro e
  have := quote_prefix (a := a) (b := b) (rest := (quoteL b).drop (quoteL a).length) (by
    conv => lhs; rw [← List.take_append_drop (quoteL a).length (quoteL b), e])
  have h2 := congrArg List.length this.2
  rw [List.length_drop] at h2; simp at h2; omega
end Go.Proofs.YtddglepimbfdkaaGreatDoor
end
