import Derived.Lib.MapLaws
import Derived.Test.YthjifpdiekoomaaProg
import Derived.WalkKit
import Derived.BigCall
import Derived.Lib.OthersKept
import Derived.Lib.Hide
import Derived.Lib.RuneBytes
section
/- Plain lists of bytes: a text's pieces (a rune, or a byte that is none), how they are quoted and read back. No program in it. -/

namespace Go.Proofs.Ythjifpdiekoomaa
open Go.Lib

/-! ### the decode, by its five shapes -/
theorem decodeL_nonbad {l : List UInt8} (hne : l ≠ []) : (decodeL l).2 ≤ l.length := decodeL_le l hne

theorem getD_take (l : List UInt8) (k i : Nat) : (l.take k).getD i 0 = if i < k then l.getD i 0 else 0 := by
  simp only [List.getD, List.getElem?_take]; split <;> rfl
theorem getD_app (l u : List UInt8) (i : Nat) (h : i < l.length) : (l ++ u).getD i 0 = l.getD i 0 := by
  simp [List.getD, List.getElem?_append_left h]

theorem decodeN_inj_take (n k b0 b1 b2 b3 : Nat) (h0 : b0 < 256) (h1 : b1 < 256) (_h2 : b2 < 256) (_h3 : b3 < 256) (hk1 : 1 ≤ k) (hn : 1 ≤ n) (hk : (decodeN n b0 b1 b2 b3).2 ≤ k) :
    decodeN (min k n) b0 (if 1 < k then b1 else 0) (if 2 < k then b2 else 0) (if 3 < k then b3 else 0) = decodeN n b0 b1 b2 b3 := by
  rcases decodeN_shape n b0 b1 b2 b3 with ⟨c, e⟩ | ⟨c1, c2, c3, cv, e⟩ | ⟨c1, c2, c3, c4, cv, cs, e⟩ | ⟨c1, c2, c3, c4, c5, cv, cw, e⟩ | e
  · rw [e]; unfold decodeN; rw [if_pos c]
  · rw [e] at hk ⊢; dsimp only at hk
    rw [if_pos (by omega)]
    unfold decodeN
    rw [if_neg (by omega), if_pos ⟨c1, by omega, c3⟩, if_pos (by omega)]
  · rw [e] at hk ⊢; dsimp only at hk
    rw [if_pos (by omega), if_pos (by omega)]
    unfold decodeN
    rw [if_neg (by omega), if_neg (by omega), if_pos ⟨c1, ⟨by omega, c3⟩, by omega, c4⟩, if_pos (by omega)]
  · rw [e] at hk ⊢; dsimp only at hk
    rw [if_pos (by omega), if_pos (by omega), if_pos (by omega)]
    unfold decodeN
    rw [if_neg (by omega), if_neg (by omega), if_neg (by omega), if_pos ⟨c1, ⟨by omega, c3⟩, ⟨by omega, c4⟩, by omega, c5⟩, if_pos (by omega)]
  · rw [e]
    rcases decodeN_shape (min k n) b0 (if 1 < k then b1 else 0) (if 2 < k then b2 else 0) (if 3 < k then b3 else 0) with ⟨c, e'⟩ | ⟨c1, c2, c3, cv, e'⟩ | ⟨c1, c2, c3, c4, cv, cs, e'⟩ | ⟨c1, c2, c3, c4, c5, cv, cw, e'⟩ | e'
    · exfalso
      have : decodeN n b0 b1 b2 b3 = (b0, 1) := by unfold decodeN; rw [if_pos c]
      rw [this] at e; simp at e; omega
    · exfalso
      have g1 : 1 < k := by omega
      rw [if_pos g1] at c3 cv
      have : decodeN n b0 b1 b2 b3 = (b0 % 32 * 64 + b1 % 64, 2) := by
        unfold decodeN; rw [if_neg (by omega), if_pos ⟨c1, by omega, c3⟩, if_pos (by omega)]
      rw [this] at e; simp at e
    · exfalso
      have g1 : 1 < k := by omega
      have g2 : 2 < k := by omega
      rw [if_pos g1] at c3 cv cs; rw [if_pos g2] at c4 cv cs
      have : decodeN n b0 b1 b2 b3 = (b0 % 16 * 4096 + b1 % 64 * 64 + b2 % 64, 3) := by
        unfold decodeN; rw [if_neg (by omega), if_neg (by omega), if_pos ⟨c1, ⟨by omega, c3⟩, by omega, c4⟩, if_pos (by omega)]
      rw [this] at e; simp at e
    · exfalso
      have g1 : 1 < k := by omega
      have g2 : 2 < k := by omega
      have g3 : 3 < k := by omega
      rw [if_pos g1] at c3 cv cw; rw [if_pos g2] at c4 cv cw; rw [if_pos g3] at c5 cv cw
      have : decodeN n b0 b1 b2 b3 = (b0 % 8 * 262144 + b1 % 64 * 4096 + b2 % 64 * 64 + b3 % 64, 4) := by
        unfold decodeN; rw [if_neg (by omega), if_neg (by omega), if_neg (by omega), if_pos ⟨c1, ⟨by omega, c3⟩, ⟨by omega, c4⟩, by omega, c5⟩, if_pos (by omega)]
      rw [this] at e; simp at e
    · exact e'

/-- What is cut off behind a piece does not change it. -/
theorem decodeL_take (l : List UInt8) (k : Nat) (hne : l ≠ []) (hk : (decodeL l).2 ≤ k) : decodeL (l.take k) = decodeL l := by
  have hw := decodeL_width l
  have hl : 0 < l.length := List.length_pos_iff.2 hne
  rw [decodeL_N] at hk
  rw [decodeL_N l, decodeL_N (l.take k), List.length_take, getD_take, getD_take, getD_take, getD_take]
  have := decodeN_inj_take l.length k (l.getD 0 0).toNat (l.getD 1 0).toNat (l.getD 2 0).toNat (l.getD 3 0).toNat (l.getD 0 0).toNat_lt (l.getD 1 0).toNat_lt (l.getD 2 0).toNat_lt (l.getD 3 0).toNat_lt (by rw [← decodeL_N] at hk; omega) hl hk
  rw [← this]
  have k0 : 0 < k := by rw [← decodeL_N] at hk; omega
  rw [if_pos k0]
  congr 1 <;> split <;> rfl

/-- A piece that is a rune stays one, whatever stands behind it. -/
theorem decodeL_app (l u : List UInt8) (hne : l ≠ []) (hv : ¬ ((decodeL l).1 = 65533 ∧ (decodeL l).2 = 1)) : decodeL (l ++ u) = decodeL l := by
  have hl : 0 < l.length := List.length_pos_iff.2 hne
  rw [decodeL_N] at hv
  rw [decodeL_N l, decodeL_N (l ++ u), List.length_append]
  rcases decodeN_shape l.length (l.getD 0 0).toNat (l.getD 1 0).toNat (l.getD 2 0).toNat (l.getD 3 0).toNat with ⟨c, e⟩ | ⟨c1, c2, c3, cv, e⟩ | ⟨c1, c2, c3, c4, cv, cs, e⟩ | ⟨c1, c2, c3, c4, c5, cv, cw, e⟩ | e
  · rw [e, getD_app l u 0 hl]; unfold decodeN; rw [if_pos c]
  · rw [e, getD_app l u 0 hl, getD_app l u 1 c2]
    unfold decodeN
    rw [if_neg (by omega), if_pos ⟨c1, by omega, c3⟩, if_pos (by omega)]
  · rw [e, getD_app l u 0 hl, getD_app l u 1 (by omega), getD_app l u 2 c2]
    unfold decodeN
    rw [if_neg (by omega), if_neg (by omega), if_pos ⟨c1, ⟨by omega, c3⟩, by omega, c4⟩, if_pos (by omega)]
  · rw [e, getD_app l u 0 hl, getD_app l u 1 (by omega), getD_app l u 2 (by omega), getD_app l u 3 c2]
    unfold decodeN
    rw [if_neg (by omega), if_neg (by omega), if_neg (by omega), if_pos ⟨c1, ⟨by omega, c3⟩, ⟨by omega, c4⟩, by omega, c5⟩, if_pos (by omega)]
  · exact absurd ⟨by rw [e], by rw [e]⟩ hv

/-- A number that no text can have is U+FFFD. -/
def norm (r : Int) : Int := if r < 0 ∨ (55296 ≤ r ∧ r ≤ 57343) ∨ 1114111 < r then 65533 else r

theorem decodeL_encode (r : Int) : ((decodeL (encodeRune r)).1 : Int) = norm r ∧ (decodeL (encodeRune r)).2 = (encodeRune r).length ∧ ¬ ((decodeL (encodeRune r)).1 = 65533 ∧ (decodeL (encodeRune r)).2 = 1) := by
  rw [decodeL_N]
  unfold norm
  by_cases hb : r < 0 ∨ (55296 ≤ r ∧ r ≤ 57343) ∨ 1114111 < r
  · rw [if_pos hb]
    unfold encodeRune; rw [encodeRuneZ_bad hb]; decide
  · rw [if_neg hb]
    by_cases h1 : r ≤ 127
    · have e : encodeRune r = [r.toNat.toUInt8] := by unfold encodeRune; rw [encodeRuneZ_one (by omega) h1]; rfl
      rw [e]
      have : decodeN 1 (r.toNat % 256) 0 0 0 = (r.toNat % 256, 1) := by unfold decodeN; rw [if_pos (by omega)]
      simp only [List.length_singleton, List.getD, List.getElem?_cons_zero, Option.getD_some]
      simp [this]; omega
    · by_cases h2 : r ≤ 2047
      · have e : encodeRune r = [(192 + r / 64).toNat.toUInt8, (128 + r % 64).toNat.toUInt8] := by unfold encodeRune; rw [encodeRuneZ_two (by omega) h2]; rfl
        rw [e]
        have : decodeN 2 ((192 + r / 64).toNat % 256) ((128 + r % 64).toNat % 256) 0 0 = (r.toNat, 2) := by
          unfold decodeN; rw [if_neg (by omega), if_pos (by omega), if_pos (by omega)]; congr 1; omega
        simp [List.getD, this]; omega
      · by_cases h3 : r ≤ 65535
        · have e : encodeRune r = [(224 + r / 4096).toNat.toUInt8, (128 + r / 64 % 64).toNat.toUInt8, (128 + r % 64).toNat.toUInt8] := by unfold encodeRune; rw [encodeRuneZ_three (by omega)]; rfl
          rw [e]
          have : decodeN 3 ((224 + r / 4096).toNat % 256) ((128 + r / 64 % 64).toNat % 256) ((128 + r % 64).toNat % 256) 0 = (r.toNat, 3) := by
            unfold decodeN; rw [if_neg (by omega), if_neg (by omega), if_pos (by omega), if_pos (by omega)]; congr 1; omega
          simp [List.getD, this]; omega
        · have e : encodeRune r = [(240 + r / 262144).toNat.toUInt8, (128 + r / 4096 % 64).toNat.toUInt8, (128 + r / 64 % 64).toNat.toUInt8, (128 + r % 64).toNat.toUInt8] := by unfold encodeRune; rw [encodeRuneZ_four (by omega) (by omega)]; rfl
          rw [e]
          have : decodeN 4 ((240 + r / 262144).toNat % 256) ((128 + r / 4096 % 64).toNat % 256) ((128 + r / 64 % 64).toNat % 256) ((128 + r % 64).toNat % 256) = (r.toNat, 4) := by
            unfold decodeN; rw [if_neg (by omega), if_neg (by omega), if_neg (by omega), if_pos (by omega), if_pos (by omega)]; congr 1; omega
          simp [List.getD, this]; omega

theorem encodeRune_ne (r : Int) : encodeRune r ≠ [] := by
  have := (runeCells_le r).1; rw [runeCells_length] at this
  intro h; rw [h] at this; simp at this
theorem decodeL_encode_app (r : Int) (u : List UInt8) : ((decodeL (encodeRune r ++ u)).1 : Int) = norm r ∧ (decodeL (encodeRune r ++ u)).2 = (encodeRune r).length := by
  obtain ⟨h1, h2, h3⟩ := decodeL_encode r
  rw [decodeL_app _ u (encodeRune_ne r) h3]
  exact ⟨h1, h2⟩

/-! ### the pieces of a text: at each piece what is left from there on -/
def sufsGo : Nat → List UInt8 → List (List UInt8)
  | 0, _ => []
  | n + 1, l => if l = [] then [] else l :: sufsGo n (l.drop (decodeL l).2)
def sufs (l : List UInt8) : List (List UInt8) := sufsGo l.length l

theorem sufsGo_nil (n : Nat) : sufsGo n [] = [] := by cases n <;> simp [sufsGo]
theorem sufsGo_fuel : ∀ (n m : Nat) (l : List UInt8), l.length ≤ n → l.length ≤ m → sufsGo n l = sufsGo m l
  | 0, m, l, hn, _ => by
    have : l = [] := List.eq_nil_of_length_eq_zero (by omega)
    subst this; rw [sufsGo_nil, sufsGo_nil]
  | n + 1, 0, l, _, hm => by
    have : l = [] := List.eq_nil_of_length_eq_zero (by omega)
    subst this; rw [sufsGo_nil, sufsGo_nil]
  | n + 1, m + 1, l, hn, hm => by
    by_cases hne : l = []
    · subst hne; rw [sufsGo_nil, sufsGo_nil]
    · have hw := decodeL_width l
      have hl : 0 < l.length := List.length_pos_iff.2 hne
      simp only [sufsGo, if_neg hne]
      rw [sufsGo_fuel n m _ (by rw [List.length_drop]; omega) (by rw [List.length_drop]; omega)]
theorem sufs_nil : sufs [] = [] := rfl
theorem sufs_step (l : List UInt8) (hne : l ≠ []) : sufs l = l :: sufs (l.drop (decodeL l).2) := by
  have hw := decodeL_width l
  have hl : 0 < l.length := List.length_pos_iff.2 hne
  unfold sufs
  obtain ⟨n, hn⟩ : ∃ n, l.length = n + 1 := ⟨l.length - 1, by omega⟩
  rw [hn]
  simp only [sufsGo, if_neg hne]
  rw [sufsGo_fuel n _ _ (by rw [List.length_drop]; omega) (Nat.le_refl _)]

/-- A piece's own bytes. -/
def head (l : List UInt8) : List UInt8 := l.take (decodeL l).2
theorem head_drop (l : List UInt8) : head l ++ l.drop (decodeL l).2 = l := List.take_append_drop _ _

/-- Induction over the pieces. -/
theorem sufs_induct {P : List UInt8 → Prop} (h0 : P []) (h1 : ∀ l, l ≠ [] → P (l.drop (decodeL l).2) → P l) : ∀ l, P l := by
  have : ∀ n (l : List UInt8), l.length ≤ n → P l := by
    intro n
    induction n with
    | zero => intro l h; have : l = [] := List.eq_nil_of_length_eq_zero (by omega); subst this; exact h0
    | succ n ih =>
      intro l h
      by_cases hne : l = []
      · subst hne; exact h0
      · have hw := decodeL_width l
        have hl : 0 < l.length := List.length_pos_iff.2 hne
        exact h1 l hne (ih _ (by rw [List.length_drop]; omega))
  exact fun l => this l.length l (Nat.le_refl _)

theorem sufs_heads (l : List UInt8) : (sufs l).flatMap head = l := by
  induction l using sufs_induct with
  | h0 => rfl
  | h1 l hne ih => rw [sufs_step l hne, List.flatMap_cons, ih, head_drop]
theorem sufs_ne (l : List UInt8) : ∀ t ∈ sufs l, t ≠ [] := by
  induction l using sufs_induct with
  | h0 => intro t ht; simp [sufs_nil] at ht
  | h1 l hne ih =>
    intro t ht; rw [sufs_step l hne] at ht
    rcases List.mem_cons.1 ht with rfl | h
    · exact hne
    · exact ih t h
theorem sufs_len (l : List UInt8) : (sufs l).length ≤ l.length := by
  induction l using sufs_induct with
  | h0 => simp [sufs_nil]
  | h1 l hne ih =>
    have hw := decodeL_width l
    have hl := decodeL_le l hne
    rw [sufs_step l hne, List.length_cons]
    rw [List.length_drop] at ih; omega

/-- A text's runes. -/
def rune (t : List UInt8) : Int := ((decodeL t).1 : Int)
def spell (l : List UInt8) : List Int := (sufs l).map rune
end Go.Proofs.Ythjifpdiekoomaa
end

section
/- Walks: what a rune is; how many there are. -/

namespace Go.Proofs.Ythjifpdiekoomaa
open Go.RowKit

def kindZ (r : Int) : Int :=
  if r < 0 ∨ r = 65533 then 0
  else if (97 ≤ r ∧ r ≤ 122) ∨ (65 ≤ r ∧ r ≤ 90) ∨ r = 95 ∨ 128 ≤ r then 1
  else if 48 ≤ r ∧ r ≤ 57 then 2
  else if r = 32 ∨ r = 9 ∨ r = 10 then 3
  else 4

theorem ret_int {k : IntKind} {a b : Int} (h : a = b) : Ending.returned (.int k a) = .returned (.int k b) := by rw [h]

set_option maxHeartbeats 4000000 in
set_option maxRecDepth 100000 in
theorem kind_any (r : Int) (w : World) : Calls Try.prog 43 #[.int .i32 r] w fun e w' => e = .returned (.int .i64 (kindZ r)) ∧ w = w' := by
  go_enter Try.func43, Try.ntmps43
  go_wp2
  all_goals (go_ret; refine ⟨ret_int ?_, rfl⟩; first | rfl | skip)
  all_goals ((try simp only [beq_iff_eq, beq_eq_false_iff_ne] at *); unfold kindZ; repeat' split)
  all_goals omega

def countOf (l : List UInt8) : Nat := (sufs l).length

theorem drop_ne {s : ByteArray} {pos : Nat} (h : pos < s.size) : s.data.toList.drop pos ≠ [] := by
  intro h0
  have := congrArg List.length h0
  rw [List.length_drop, ← Lib.size_eq] at this
  simp at this; omega
theorem drop_end {s : ByteArray} {pos : Nat} (h : ¬ pos < s.size) : s.data.toList.drop pos = [] := List.drop_eq_nil_of_le (by rw [← Lib.size_eq]; omega)
/-- One piece on. -/
theorem sufs_at {s : ByteArray} {pos : Nat} (h : pos < s.size) : sufs (s.data.toList.drop pos) = s.data.toList.drop pos :: sufs (s.data.toList.drop (pos + (Utf8.decode s pos).2)) := by
  rw [sufs_step _ (drop_ne h), Lib.decodeL_drop, List.drop_drop]
theorem width1 (s : ByteArray) (pos : Nat) : 1 ≤ (Utf8.decode s pos).2 := by rw [← Lib.decodeL_drop]; exact Lib.decodeL_width _
theorem width_le {s : ByteArray} {pos : Nat} (h : pos < s.size) : pos + (Utf8.decode s pos).2 ≤ s.size := by
  have := Lib.decodeL_le _ (drop_ne h)
  rw [Lib.decodeL_drop, List.length_drop, ← Lib.size_eq] at this; omega
theorem iterPos_of {w : World} {k : Nat} {s : ByteArray} {p : Nat} (h : w.heap[k]? = some (.stringIter s p)) : w.iterPos k = p := by simp [World.iterPos, h]

end Go.Proofs.Ythjifpdiekoomaa
end

section
/- Walks: whether a text is a name. -/

namespace Go.Proofs.Ythjifpdiekoomaa
open Go.RowKit

def nameGo : Nat → List Int → Bool
  | n, [] => decide (0 < n)
  | n, r :: rs => if n = 30 ∨ (kindZ r ≠ 1 ∧ (kindZ r ≠ 2 ∨ n = 0)) then false else nameGo (n + 1) rs
def nameB (l : List UInt8) : Bool := nameGo 0 (spell l)

theorem spell_at {s : ByteArray} {pos : Nat} (h : pos < s.size) : spell (s.data.toList.drop pos) = ((Utf8.decode s pos).1 : Int) :: spell (s.data.toList.drop (pos + (Utf8.decode s pos).2)) := by
  unfold spell
  rw [sufs_at h, List.map_cons]
  unfold rune
  rw [Lib.decodeL_drop]
theorem spell_end {s : ByteArray} {pos : Nat} (h : ¬ pos < s.size) : spell (s.data.toList.drop pos) = [] := by rw [drop_end h]; rfl
theorem ret_bool {a b : Bool} (h : a = b) : Ending.returned (.bool a) = .returned (.bool b) := by rw [h]

theorem name_bad (k : Nat) (r : Int) (rs : List Int) (h : k = 30 ∨ (kindZ r ≠ 1 ∧ (kindZ r ≠ 2 ∨ k = 0))) : nameGo k (r :: rs) = false := by
  unfold nameGo; rw [if_pos h]
theorem name_good (k : Nat) (r : Int) (rs : List Int) (h : ¬ (k = 30 ∨ (kindZ r ≠ 1 ∧ (kindZ r ≠ 2 ∨ k = 0)))) : nameGo k (r :: rs) = nameGo (k + 1) rs := by
  rw [nameGo, if_neg h]

set_option maxHeartbeats 1000000 in
set_option maxRecDepth 100000 in
theorem name_any (s : ByteArray) (w : World) : Calls Try.prog 37 #[.string s] w fun e w' => e = .returned (.bool (nameB s.data.toList)) ∧ Below w.heap.size w w' := by
  go_enter Try.func37, Try.ntmps37
  go_wp2
  go_loopw [3] (fun v wr => ∃ (pos k : Nat), wr.heap[w.heap.size]? = some (.stringIter s pos) ∧ Below w.heap.size w wr ∧ v = .int .i64 k ∧ Hid (nameGo k (spell (s.data.toList.drop pos)) = nameB s.data.toList) ∧ k ≤ 30) (fun _ wr => s.size - wr.iterPos w.heap.size)
  case atStart => exact ⟨0, 0, World.iter_heap w s 0, (Below.refl _ _).alloc (Nat.le_refl _) _, rfl, (by show _ = _; simp [nameB]), by omega⟩
  case round =>
    obtain ⟨pos, k, hit, hbw, rfl, H, hk⟩ := hrel
    have hpos0 := iterPos_of hit
    by_cases hp : pos < s.size
    · have hnx : ∀ ty, (Instr.next (.pointer (some ⟨w.heap.size, 0, none⟩)) true ty).run Try.prog wr = _ := fun ty => Lib.run_next_any_at wr w.heap.size s pos ty hit hp
      have hwd := width1 s pos
      have hit2 := Lib.iterAt_heap wr w.heap.size s pos (pos + (Utf8.decode s pos).2) hit
      have hbw2 := Lib.below_iterAt hbw (k := w.heap.size) (Nat.le_refl _) s (pos + (Utf8.decode s pos).2)
      have H2 : Hid (nameGo k (((Utf8.decode s pos).1 : Int) :: spell (s.data.toList.drop (pos + (Utf8.decode s pos).2))) = nameB s.data.toList) := by
        show _ = _
        rw [← H.out, spell_at hp]
      clear H
      go_wp2_with (go_at_call 43; refine (kind_any _ _).mono ?_; rintro e w' ⟨rfl, rfl⟩)
      all_goals try (simp only [beq_iff_eq, beq_eq_false_iff_ne, bne_iff_ne, bne_eq_false_iff_eq, ne_eq] at *)
      all_goals first
        | (go_ret
           exact ⟨ret_bool (by rw [← H2.out, name_bad _ _ _ (by omega)]), hbw2⟩)
        | (go_roundw
           case rel => exact ⟨pos + (Utf8.decode s pos).2, k + 1, hit2, hbw2, by go_num, (by show _ = _; rw [← H2.out, name_good _ _ _ (by omega)]), by omega⟩
           case measure => rw [iterPos_of hit2, hpos0]; omega)
        | (exfalso; omega)
    · have hnx : ∀ ty, (Instr.next (.pointer (some ⟨w.heap.size, 0, none⟩)) true ty).run Try.prog wr = _ := fun ty => Lib.run_next_end_at wr w.heap.size s pos ty hit hp
      have H2 : Hid (decide (0 < k) = nameB s.data.toList) := by
        show _ = _
        rw [← H.out, spell_end hp]; rfl
      go_wp2
      go_ret
      exact ⟨ret_bool (by rw [← H2.out]), hbw⟩
end Go.Proofs.Ythjifpdiekoomaa
end

section
/- How a text is gone through: as the texts of glyph have it. -/
end

section
/- Numbers with a limit, plain: signs, what they reckon, texts that are signs. No program in it. -/

namespace Go.Proofs.Ythjifpdiekoomaa.Fix

/-- A number that may be. -/
def rgt (v : Int) : Prop := -1000000000000 ≤ v ∧ v ≤ 1000000000000
instance (v : Int) : Decidable (rgt v) := by unfold rgt; infer_instance
def rgtB (v : Int) : Bool := decide (rgt v)

def reckB (f : Int) (q : Bool) : Bool := (f == 43 || f == 45 || f == 42 || f == 47 || f == 37) && !q
def cmpB (f : Int) (q : Bool) : Bool := if f = 61 ∨ f = 33 then q else f == 60 || f == 62
/-- What is read of runes: the first one, whether an equality sign stands behind it, whether it is a sign. -/
def readF : List Int → Int × Bool × Bool
  | [] => (0, false, false)
  | [f] => (f, false, reckB f false || cmpB f false)
  | [f, g] => if g = 61 then (f, true, reckB f true || cmpB f true) else (0, false, false)
  | _ => (0, false, false)

/-- Which sign a text is: its first rune, and whether an equality sign stands behind it. -/
def signOf (s : ByteArray) : Option (Int × Bool) :=
  if (readF (spell s.data.toList)).2.2 then some ((readF (spell s.data.toList)).1, (readF (spell s.data.toList)).2.1) else none

def holdsF (f : Int) (q : Bool) (a b : Int) : Bool :=
  if f = 60 then decide (a < b) || (q && a == b) else if f = 62 then decide (b < a) || (q && a == b) else if f = 61 then a == b else !(a == b)
def withinF (v : Int) : Int × Int := if rgt v then (v, 0) else (0, 4)
def sizeF (v : Int) : Int := if v ≤ -v then -v else v
def timesF (a b : Int) : Int × Int := if b ≠ 0 ∧ 1000000000000 / sizeF b < sizeF a then (0, 4) else (a * b, 0)
def reckF (f : Int) (a b : Int) : Int × Int :=
  if f = 43 then withinF (a + b) else if f = 45 then withinF (a - b) else if f = 42 then timesF a b else
  if b = 0 then (0, 5) else if f = 47 then (a.tdiv b, 0) else (a.tmod b, 0)
def doF (s : ByteArray) (a b : Int) : Int × Int :=
  match signOf s with
  | none => (0, 1)
  | some x => if rgt a ∧ rgt b then (if cmpB x.1 x.2 then (if holdsF x.1 x.2 a b then (1, 0) else (0, 0)) else reckF x.1 a b) else (0, 1)
def comparesF (s : ByteArray) : Bool :=
  match signOf s with
  | none => false
  | some x => cmpB x.1 x.2

/-! ### which texts are signs -/
theorem bytes_ext {a b : ByteArray} (h : a.data.toList = b.data.toList) : a = b := by
  cases a; cases b; congr 1; exact Array.ext' h
theorem spell_nil : spell [] = [] := rfl
theorem spell_step (l : List UInt8) (hne : l ≠ []) : spell l = rune l :: spell (l.drop (Go.Lib.decodeL l).2) := by
  unfold spell; rw [sufs_step l hne, List.map_cons]
theorem ascii_cons (c : UInt8) (hc : c.toNat < 128) (l : List UInt8) : spell (c :: l) = (c.toNat : Int) :: spell l := by
  have hd : Go.Lib.decodeL (c :: l) = (c.toNat, 1) := by
    rw [Go.Lib.decodeL_N]
    unfold Go.Lib.decodeN
    rw [if_pos (by simpa using hc)]; rfl
  rw [spell_step _ (by simp)]
  unfold rune
  rw [hd]; rfl
/-- A rune below 128 is its one byte. -/
theorem ascii_head (l : List UInt8) (hne : l ≠ []) (h : rune l < 128) : ∃ c t, l = c :: t ∧ c.toNat < 128 ∧ rune l = c.toNat ∧ spell l = (c.toNat : Int) :: spell t := by
  cases l with
  | nil => exact absurd rfl hne
  | cons c t =>
    have hc : c.toNat < 128 := by
      unfold rune at h
      rw [Go.Lib.decodeL_N] at h
      have h0 : ((c :: t).getD 0 0) = c := rfl
      rw [h0] at h
      rcases Go.Lib.decodeN_shape (c :: t).length c.toNat ((c :: t).getD 1 0).toNat ((c :: t).getD 2 0).toNat ((c :: t).getD 3 0).toNat with ⟨k, e⟩ | ⟨c1, c2, c3, cv, e⟩ | ⟨c1, c2, c3, c4, cv, cs, e⟩ | ⟨c1, c2, c3, c4, c5, cv, cw, e⟩ | e
      · omega
      all_goals (rw [e] at h; dsimp only at h; omega)
    have e := ascii_cons c hc t
    refine ⟨c, t, rfl, hc, ?_, e⟩
    have := spell_step (c :: t) (by simp)
    rw [e] at this
    exact (List.cons.inj this).1.symm
theorem spell_one {l : List UInt8} {f : Int} (h : spell l = [f]) (hf : f < 128) : l = [f.toNat.toUInt8] := by
  have hne : l ≠ [] := fun e => by rw [e] at h; simp [spell_nil] at h
  have h2 := spell_step l hne
  rw [h] at h2
  obtain ⟨c, t, rfl, hc, hr, e⟩ := ascii_head l hne (by rw [← (List.cons.inj h2).1]; exact hf)
  rw [h] at e
  obtain ⟨e1, e2⟩ := List.cons.inj e
  have ht : t = [] := by
    cases t with
    | nil => rfl
    | cons x y => rw [spell_step _ (by simp)] at e2; simp at e2
  subst ht
  rw [e1]; simp
theorem spell_two {l : List UInt8} {f g : Int} (h : spell l = [f, g]) (hf : f < 128) (hg : g < 128) : l = [f.toNat.toUInt8, g.toNat.toUInt8] := by
  have hne : l ≠ [] := fun e => by rw [e] at h; simp [spell_nil] at h
  have h2 := spell_step l hne
  rw [h] at h2
  obtain ⟨c, t, rfl, hc, hr, e⟩ := ascii_head l hne (by rw [← (List.cons.inj h2).1]; exact hf)
  rw [h] at e
  obtain ⟨e1, e2⟩ := List.cons.inj e
  rw [spell_one e2.symm hg, e1]; simp

theorem readF_cases {l : List Int} (h : (readF l).2.2 = true) :
    l = [43] ∨ l = [45] ∨ l = [42] ∨ l = [47] ∨ l = [37] ∨ l = [61, 61] ∨ l = [33, 61] ∨ l = [60] ∨ l = [60, 61] ∨ l = [62] ∨ l = [62, 61] := by
  match l, h with
  | [], h => simp [readF] at h
  | [f], h =>
    simp only [readF, reckB, cmpB] at h
    by_cases h1 : f = 61 ∨ f = 33
    · rw [if_pos h1] at h
      rcases h1 with rfl | rfl <;> simp at h
    · rw [if_neg h1] at h
      simp at h
      rcases h with ((((rfl | rfl) | rfl) | rfl) | rfl) | rfl | rfl <;> simp
  | [f, g], h =>
    by_cases hg : g = 61
    · subst hg
      simp only [readF, if_true, reckB, cmpB] at h
      by_cases h1 : f = 61 ∨ f = 33
      · rcases h1 with rfl | rfl <;> simp
      · rw [if_neg h1] at h
        simp at h
        rcases h with rfl | rfl <;> simp
    · simp [readF, hg] at h
  | f :: g :: k :: t, h => simp [readF] at h

/-- The eleven signs, as texts. -/
def signs : List ByteArray := [⟨#[43]⟩, ⟨#[45]⟩, ⟨#[42]⟩, ⟨#[47]⟩, ⟨#[37]⟩, ⟨#[61, 61]⟩, ⟨#[33, 61]⟩, ⟨#[60]⟩, ⟨#[60, 61]⟩, ⟨#[62]⟩, ⟨#[62, 61]⟩]
theorem sign_of_read {s : ByteArray} (h : (readF (spell s.data.toList)).2.2 = true) : s ∈ signs := by
  have one : ∀ f : Int, f < 128 → spell s.data.toList = [f] → s = ⟨#[f.toNat.toUInt8]⟩ := fun f hf e => bytes_ext (spell_one e hf)
  have two : ∀ f g : Int, f < 128 → g < 128 → spell s.data.toList = [f, g] → s = ⟨#[f.toNat.toUInt8, g.toNat.toUInt8]⟩ := fun f g hf hg e => bytes_ext (spell_two e hf hg)
  unfold signs
  rcases readF_cases h with e | e | e | e | e | e | e | e | e | e | e
  · rw [one _ (by decide) e]; exact List.mem_of_getElem? (i := 0) rfl
  · rw [one _ (by decide) e]; exact List.mem_of_getElem? (i := 1) rfl
  · rw [one _ (by decide) e]; exact List.mem_of_getElem? (i := 2) rfl
  · rw [one _ (by decide) e]; exact List.mem_of_getElem? (i := 3) rfl
  · rw [one _ (by decide) e]; exact List.mem_of_getElem? (i := 4) rfl
  · rw [two _ _ (by decide) (by decide) e]; exact List.mem_of_getElem? (i := 5) rfl
  · rw [two _ _ (by decide) (by decide) e]; exact List.mem_of_getElem? (i := 6) rfl
  · rw [one _ (by decide) e]; exact List.mem_of_getElem? (i := 7) rfl
  · rw [two _ _ (by decide) (by decide) e]; exact List.mem_of_getElem? (i := 8) rfl
  · rw [one _ (by decide) e]; exact List.mem_of_getElem? (i := 9) rfl
  · rw [two _ _ (by decide) (by decide) e]; exact List.mem_of_getElem? (i := 10) rfl
theorem signOf_none {s : ByteArray} (h : s ∉ signs) : signOf s = none := by
  unfold signOf
  rw [if_neg (fun h2 => h (sign_of_read h2))]
theorem sign_add : signOf ⟨#[43]⟩ = some (43, false) := by decide +kernel
theorem sign_sub : signOf ⟨#[45]⟩ = some (45, false) := by decide +kernel
theorem sign_mul : signOf ⟨#[42]⟩ = some (42, false) := by decide +kernel
theorem sign_div : signOf ⟨#[47]⟩ = some (47, false) := by decide +kernel
theorem sign_mod : signOf ⟨#[37]⟩ = some (37, false) := by decide +kernel
theorem sign_eq : signOf ⟨#[61, 61]⟩ = some (61, true) := by decide +kernel
theorem sign_ne : signOf ⟨#[33, 61]⟩ = some (33, true) := by decide +kernel
theorem sign_lt : signOf ⟨#[60]⟩ = some (60, false) := by decide +kernel
theorem sign_le : signOf ⟨#[60, 61]⟩ = some (60, true) := by decide +kernel
theorem sign_gt : signOf ⟨#[62]⟩ = some (62, false) := by decide +kernel
theorem sign_ge : signOf ⟨#[62, 61]⟩ = some (62, true) := by decide +kernel
end Go.Proofs.Ythjifpdiekoomaa.Fix
end

section
/- Names, plain: their runes. -/

namespace Go.Proofs.Ythjifpdiekoomaa
open Go.RowKit

/-- Runes that are runes: nothing in the text is a wrong byte. -/
def Right (l : List UInt8) : Prop := ∀ t ∈ sufs l, ¬ ((Lib.decodeL t).1 = 65533 ∧ (Lib.decodeL t).2 = 1)

theorem nameGo_kinds : ∀ (xs : List Int) (k : Nat), nameGo k xs = true → ∀ x ∈ xs, kindZ x = 1 ∨ kindZ x = 2
  | [], _, _ => by simp
  | x :: xs, k, h => by
    by_cases hb : k = 30 ∨ (kindZ x ≠ 1 ∧ (kindZ x ≠ 2 ∨ k = 0))
    · rw [name_bad _ _ _ hb] at h; cases h
    · rw [name_good _ _ _ hb] at h
      intro y hy
      rcases List.mem_cons.1 hy with rfl | hy
      · omega
      · exact nameGo_kinds xs (k + 1) h y hy
theorem name_right (l : List UInt8) (h : nameB l = true) : Right l := by
  intro t ht hbad
  have hk := nameGo_kinds _ _ h (rune t) (by unfold spell; exact List.mem_map_of_mem ht)
  have : rune t = 65533 := by unfold rune; rw [hbad.1]; rfl
  rw [this] at hk
  revert hk; decide

end Go.Proofs.Ythjifpdiekoomaa
end
