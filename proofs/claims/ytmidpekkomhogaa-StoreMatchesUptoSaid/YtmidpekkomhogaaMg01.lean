import Derived.Lib.MapLaws
import Derived.Test.YtmidpekkomhogaaProg
import Derived.WalkKit
import Derived.BigCall
import Derived.Lib.OthersKept
import Derived.Lib.Hide
import Derived.Lib.RuneBytes
import Derived.Test.YtmidpekkomhogaaShelfA
import Derived.Deep.RegionWith
import Derived.Deep.RegionHeld3
import Derived.Deep.QuietTactic
import Derived.BigQuiet
section
/- Plain lists of bytes: a text's pieces (a rune, or a byte that is none), how they are quoted and read back. No program in it. -/

namespace Go.Proofs.Ytmidpekkomhogaa
open Go.Lib

/-! ### the decode, by its five shapes -/

/-! ### the pieces of a text: at each piece what is left from there on -/
def sufsGo : Nat → List UInt8 → List (List UInt8)
  | 0, _ => []
  | n + 1, l => if l = [] then [] else l :: sufsGo n (l.drop (decodeL l).2)
def sufs (l : List UInt8) : List (List UInt8) := sufsGo l.length l

theorem sufsGo_nil (n : Nat) : sufsGo n [] = [] := by cases n <;> simp [sufsGo]
theorem sufsGo_fuel : ∀ (n m : Nat) (l : List UInt8), l.length ≤ n → l.length ≤ m → sufsGo n l = sufsGo m l
  | 0, m, l, hn, _ => by
    have : l = [] := List.eq_nil_of_length_eq_zero (by omega)
    subst this; rw [sufsGo_nil, sufsGo_nil]
  | n + 1, 0, l, _, hm => by
    have : l = [] := List.eq_nil_of_length_eq_zero (by omega)
    subst this; rw [sufsGo_nil, sufsGo_nil]
  | n + 1, m + 1, l, hn, hm => by
    by_cases hne : l = []
    · subst hne; rw [sufsGo_nil, sufsGo_nil]
    · have hw := decodeL_width l
      have hl : 0 < l.length := List.length_pos_iff.2 hne
      simp only [sufsGo, if_neg hne]
      rw [sufsGo_fuel n m _ (by rw [List.length_drop]; omega) (by rw [List.length_drop]; omega)]
theorem sufs_nil : sufs [] = [] := rfl
theorem sufs_step (l : List UInt8) (hne : l ≠ []) : sufs l = l :: sufs (l.drop (decodeL l).2) := by
  have hw := decodeL_width l
  have hl : 0 < l.length := List.length_pos_iff.2 hne
  unfold sufs
  obtain ⟨n, hn⟩ : ∃ n, l.length = n + 1 := ⟨l.length - 1, by omega⟩
  rw [hn]
  simp only [sufsGo, if_neg hne]
  rw [sufsGo_fuel n _ _ (by rw [List.length_drop]; omega) (Nat.le_refl _)]

/-- Induction over the pieces. -/
theorem sufs_induct {P : List UInt8 → Prop} (h0 : P []) (h1 : ∀ l, l ≠ [] → P (l.drop (decodeL l).2) → P l) : ∀ l, P l := by
  have : ∀ n (l : List UInt8), l.length ≤ n → P l := by
    intro n
    induction n with
    | zero => intro l h; have : l = [] := List.eq_nil_of_length_eq_zero (by omega); subst this; exact h0
    | succ n ih =>
      intro l h
      by_cases hne : l = []
      · subst hne; exact h0
      · have hw := decodeL_width l
        have hl : 0 < l.length := List.length_pos_iff.2 hne
        exact h1 l hne (ih _ (by rw [List.length_drop]; omega))
  exact fun l => this l.length l (Nat.le_refl _)

theorem sufs_len (l : List UInt8) : (sufs l).length ≤ l.length := by
  induction l using sufs_induct with
  | h0 => simp [sufs_nil]
  | h1 l hne ih =>
    have hw := decodeL_width l
    have hl := decodeL_le l hne
    rw [sufs_step l hne, List.length_cons]
    rw [List.length_drop] at ih; omega

/-- A text's runes. -/
def rune (t : List UInt8) : Int := ((decodeL t).1 : Int)
def spell (l : List UInt8) : List Int := (sufs l).map rune
end Go.Proofs.Ytmidpekkomhogaa
end

section
/- Walks: what a rune is; how many there are. -/

namespace Go.Proofs.Ytmidpekkomhogaa
open Go.RowKit

def kindZ (r : Int) : Int :=
  if r < 0 ∨ r = 65533 then 0
  else if (97 ≤ r ∧ r ≤ 122) ∨ (65 ≤ r ∧ r ≤ 90) ∨ r = 95 ∨ 128 ≤ r then 1
  else if 48 ≤ r ∧ r ≤ 57 then 2
  else if r = 32 ∨ r = 9 ∨ r = 10 then 3
  else 4

theorem ret_int {k : IntKind} {a b : Int} (h : a = b) : Ending.returned (.int k a) = .returned (.int k b) := by rw [h]

set_option maxHeartbeats 4000000 in
set_option maxRecDepth 100000 in
theorem kind_any (r : Int) (w : World) : Calls Try.prog 55 #[.int .i32 r] w fun e w' => e = .returned (.int .i64 (kindZ r)) ∧ w = w' := by
  go_enter Try.func55, Try.ntmps55
  go_wp2
  all_goals (go_ret; refine ⟨ret_int ?_, rfl⟩; first | rfl | skip)
  all_goals ((try simp only [beq_iff_eq, beq_eq_false_iff_ne] at *); unfold kindZ; repeat' split)
  all_goals omega

def countOf (l : List UInt8) : Nat := (sufs l).length

theorem drop_ne {s : ByteArray} {pos : Nat} (h : pos < s.size) : s.data.toList.drop pos ≠ [] := by
  intro h0
  have := congrArg List.length h0
  rw [List.length_drop, ← Lib.size_eq] at this
  simp at this; omega
theorem drop_end {s : ByteArray} {pos : Nat} (h : ¬ pos < s.size) : s.data.toList.drop pos = [] := List.drop_eq_nil_of_le (by rw [← Lib.size_eq]; omega)
/-- One piece on. -/
theorem sufs_at {s : ByteArray} {pos : Nat} (h : pos < s.size) : sufs (s.data.toList.drop pos) = s.data.toList.drop pos :: sufs (s.data.toList.drop (pos + (Utf8.decode s pos).2)) := by
  rw [sufs_step _ (drop_ne h), Lib.decodeL_drop, List.drop_drop]
theorem width1 (s : ByteArray) (pos : Nat) : 1 ≤ (Utf8.decode s pos).2 := by rw [← Lib.decodeL_drop]; exact Lib.decodeL_width _
theorem width_le {s : ByteArray} {pos : Nat} (h : pos < s.size) : pos + (Utf8.decode s pos).2 ≤ s.size := by
  have := Lib.decodeL_le _ (drop_ne h)
  rw [Lib.decodeL_drop, List.length_drop, ← Lib.size_eq] at this; omega
theorem iterPos_of {w : World} {k : Nat} {s : ByteArray} {p : Nat} (h : w.heap[k]? = some (.stringIter s p)) : w.iterPos k = p := by simp [World.iterPos, h]

end Go.Proofs.Ytmidpekkomhogaa
end

section
/- Walks: whether a text is a name. -/

namespace Go.Proofs.Ytmidpekkomhogaa
open Go.RowKit

def nameGo : Nat → List Int → Bool
  | n, [] => decide (0 < n)
  | n, r :: rs => if n = 30 ∨ (kindZ r ≠ 1 ∧ (kindZ r ≠ 2 ∨ n = 0)) then false else nameGo (n + 1) rs
def nameB (l : List UInt8) : Bool := nameGo 0 (spell l)

theorem spell_at {s : ByteArray} {pos : Nat} (h : pos < s.size) : spell (s.data.toList.drop pos) = ((Utf8.decode s pos).1 : Int) :: spell (s.data.toList.drop (pos + (Utf8.decode s pos).2)) := by
  unfold spell
  rw [sufs_at h, List.map_cons]
  unfold rune
  rw [Lib.decodeL_drop]
theorem spell_end {s : ByteArray} {pos : Nat} (h : ¬ pos < s.size) : spell (s.data.toList.drop pos) = [] := by rw [drop_end h]; rfl
theorem ret_bool {a b : Bool} (h : a = b) : Ending.returned (.bool a) = .returned (.bool b) := by rw [h]

theorem name_bad (k : Nat) (r : Int) (rs : List Int) (h : k = 30 ∨ (kindZ r ≠ 1 ∧ (kindZ r ≠ 2 ∨ k = 0))) : nameGo k (r :: rs) = false := by
  unfold nameGo; rw [if_pos h]
theorem name_good (k : Nat) (r : Int) (rs : List Int) (h : ¬ (k = 30 ∨ (kindZ r ≠ 1 ∧ (kindZ r ≠ 2 ∨ k = 0)))) : nameGo k (r :: rs) = nameGo (k + 1) rs := by
  rw [nameGo, if_neg h]

set_option maxHeartbeats 1000000 in
set_option maxRecDepth 100000 in
theorem name_any (s : ByteArray) (w : World) : Calls Try.prog 45 #[.string s] w fun e w' => e = .returned (.bool (nameB s.data.toList)) ∧ Below w.heap.size w w' := by
  go_enter Try.func45, Try.ntmps45
  go_wp2
  go_loopw [3] (fun v wr => ∃ (pos k : Nat), wr.heap[w.heap.size]? = some (.stringIter s pos) ∧ Below w.heap.size w wr ∧ v = .int .i64 k ∧ Hid (nameGo k (spell (s.data.toList.drop pos)) = nameB s.data.toList) ∧ k ≤ 30) (fun _ wr => s.size - wr.iterPos w.heap.size)
  case atStart => exact ⟨0, 0, World.iter_heap w s 0, (Below.refl _ _).alloc (Nat.le_refl _) _, rfl, (by show _ = _; simp [nameB]), by omega⟩
  case round =>
    obtain ⟨pos, k, hit, hbw, rfl, H, hk⟩ := hrel
    have hpos0 := iterPos_of hit
    by_cases hp : pos < s.size
    · have hnx : ∀ ty, (Instr.next (.pointer (some ⟨w.heap.size, 0, none⟩)) true ty).run Try.prog wr = _ := fun ty => Lib.run_next_any_at wr w.heap.size s pos ty hit hp
      have hwd := width1 s pos
      have hit2 := Lib.iterAt_heap wr w.heap.size s pos (pos + (Utf8.decode s pos).2) hit
      have hbw2 := Lib.below_iterAt hbw (k := w.heap.size) (Nat.le_refl _) s (pos + (Utf8.decode s pos).2)
      have H2 : Hid (nameGo k (((Utf8.decode s pos).1 : Int) :: spell (s.data.toList.drop (pos + (Utf8.decode s pos).2))) = nameB s.data.toList) := by
        show _ = _
        rw [← H.out, spell_at hp]
      clear H
      go_wp2_with (go_at_call 55; refine (kind_any _ _).mono ?_; rintro e w' ⟨rfl, rfl⟩)
      all_goals try (simp only [beq_iff_eq, beq_eq_false_iff_ne, bne_iff_ne, bne_eq_false_iff_eq, ne_eq] at *)
      all_goals first
        | (go_ret
           exact ⟨ret_bool (by rw [← H2.out, name_bad _ _ _ (by omega)]), hbw2⟩)
        | (go_roundw
           case rel => exact ⟨pos + (Utf8.decode s pos).2, k + 1, hit2, hbw2, by go_num, (by show _ = _; rw [← H2.out, name_good _ _ _ (by omega)]), by omega⟩
           case measure => rw [iterPos_of hit2, hpos0]; omega)
        | (exfalso; omega)
    · have hnx : ∀ ty, (Instr.next (.pointer (some ⟨w.heap.size, 0, none⟩)) true ty).run Try.prog wr = _ := fun ty => Lib.run_next_end_at wr w.heap.size s pos ty hit hp
      have H2 : Hid (decide (0 < k) = nameB s.data.toList) := by
        show _ = _
        rw [← H.out, spell_end hp]; rfl
      go_wp2
      go_ret
      exact ⟨ret_bool (by rw [← H2.out]), hbw⟩
end Go.Proofs.Ytmidpekkomhogaa
end

section
/- How a text is gone through: as the texts of glyph have it. -/
end

section
/- Labels: a clone, and whether a label may be. -/

namespace Go.Proofs.Ytmidpekkomhogaa
open Go.RowKit

theorem bcell {W w1 : World} (hb : Below W.heap.size W w1) : (∀ b o, b < W.heap.size → w1.cell? ⟨b, o, none⟩ = W.cell? ⟨b, o, none⟩) ∧ (∀ b o, b < W.heap.size → w1.frozen? ⟨b, o, none⟩ = W.frozen? ⟨b, o, none⟩) :=
  ⟨fun b o h => hb.cell (p := ⟨b, o, none⟩) h, fun b o h => hb.frozen (p := ⟨b, o, none⟩) h⟩

set_option maxHeartbeats 1000000 in
set_option maxRecDepth 100000 in
theorem clone_any (s : ByteArray) (w : World) (hs : s.size ≤ 281474976710656) :
    Calls Try.prog 40 #[.string s] w fun e w' => e = .returned (.string s) ∧ Below w.heap.size w w' := by
  go_enter Try.func40, Try.ntmps40
  go_wp2_with (go_at_call 52; refine (Try.stringslite_Clone _ _ hs).mono ?_; rintro e w1 ⟨rfl, b1⟩)
  go_ret
  exact ⟨rfl, b1⟩

/-- Two blocks of a label each: what was handed in; what is made. -/
def Two (k : Nat) (a b : ByteArray) (w W : World) : Prop := W.heap[k]? = some (.cells #[.string a, .string b] 49 (0, 0)) ∧ W.heap[k + 1]? = some (.cells #[.string ⟨#[]⟩, .string ⟨#[]⟩] 49 (0, 0)) ∧ Below k w W
theorem Two.below {k : Nat} {a b : ByteArray} {w W W' : World} (h : Two k a b w W) (hb : Below W.heap.size W W') : Two k a b w W' := by
  have h1 := (Array.getElem?_eq_some_iff.1 h.1).1
  exact ⟨(hb.block _ h1).trans h.1, (hb.block _ (Array.getElem?_eq_some_iff.1 h.2.1).1).trans h.2.1, h.2.2.trans (hb.mono (by omega))⟩
theorem Two.reads {k : Nat} {a b : ByteArray} {w W : World} (h : Two k a b w W) : W.cell? ⟨k, 0, none⟩ = some (.string a) ∧ W.cell? ⟨k, 1, none⟩ = some (.string b) ∧ W.cell? ⟨k + 1, 0, none⟩ = some (.string ⟨#[]⟩) ∧ W.cell? ⟨k + 1, 1, none⟩ = some (.string ⟨#[]⟩) ∧ W.frozen? ⟨k + 1, 0, none⟩ = false ∧ W.frozen? ⟨k + 1, 1, none⟩ = false := by
  obtain ⟨h1, h2, _⟩ := h
  refine ⟨?_, ?_, ?_, ?_, ?_, ?_⟩ <;> simp [World.cell?, World.frozen?, h1, h2]

set_option maxHeartbeats 2000000 in
set_option maxRecDepth 100000 in
theorem cloneL_any (a b : ByteArray) (w : World) (ha : a.size ≤ 281474976710656) (hb : b.size ≤ 281474976710656) :
    Calls Try.prog 60 #[.agg #[.string a, .string b]] w fun e w' => e = .returned (.agg #[.string a, .string b]) ∧ Below w.heap.size w w' := by
  have HA := Lib.hid ha
  have HB := Lib.hid hb
  clear ha hb
  have HC := Lib.hid (fun (c : ByteArray) (hc : c.size ≤ 281474976710656) (W : World) (hW : Hid (Two w.heap.size a b w W)) => (clone_any c W hc).mono (fun e w' h => show e = .returned (.string c) ∧ w'.cell? ⟨w.heap.size, 0, none⟩ = some (.string a) ∧ w'.cell? ⟨w.heap.size, 1, none⟩ = some (.string b) ∧ w'.cell? ⟨w.heap.size + 1, 0, none⟩ = some (.string ⟨#[]⟩) ∧ w'.cell? ⟨w.heap.size + 1, 1, none⟩ = some (.string ⟨#[]⟩) ∧ w'.frozen? ⟨w.heap.size + 1, 0, none⟩ = false ∧ w'.frozen? ⟨w.heap.size + 1, 1, none⟩ = false ∧ Hid (Two w.heap.size a b w w') from
    have h2 := hW.out.below h.2
    have h3 := h2.reads
    ⟨h.1, h3.1, h3.2.1, h3.2.2.1, h3.2.2.2.1, h3.2.2.2.2.1, h3.2.2.2.2.2, h2⟩))
  go_enter Try.func60, Try.ntmps60
  go_wp2_with fail
  obtain ⟨W, hW⟩ : ∃ W, (w.alloc (Obj.cells #[Value.string a, Value.string b] 49)).alloc (Obj.cells #[Value.string ⟨#[]⟩, Value.string ⟨#[]⟩] 49) = W := ⟨_, rfl⟩
  have h2 : Two w.heap.size a b w W := by
    subst hW
    refine ⟨?_, ?_, ((Below.refl _ _).alloc (Nat.le_refl _) _).alloc (by simp) _⟩
    · rw [Below.heap_alloc _ _ _ (by rw [World.size_alloc]; omega)]; exact Array.getElem?_push_size
    · have e : (w.alloc (Obj.cells #[Value.string a, Value.string b] 49)).heap.size = w.heap.size + 1 := World.size_alloc _ _
      rw [← e]; exact Array.getElem?_push_size
  rw [hW]
  obtain ⟨r1, r2, r3, r4, r5, r6⟩ := h2.reads
  have H2 := Lib.hid (show Two w.heap.size a b w W.drew from ⟨h2.1, h2.2.1, h2.2.2.drew⟩)
  clear h2 hW
  go_region_with (go_at_call 40; refine (HC.out _ (by first | exact HA.out | exact HB.out) _ (by first | exact s7 | exact H2)).mono ?_; rintro e wq ⟨rfl, s1, s2, s3, s4, s5, s6, s7⟩)
  all_goals
    have hB := s7.out.2.2
    clear HC H2 r1 r2 r3 r4 r5 r6
    go_wp2
    exact bodyPost_ret (v := .agg #[.string a, .string b]) (by simp [results, Try.results60, go_sem, s3, s4]) rfl ⟨rfl, (hB.setCell (by simp) _).setCell (by simp) _⟩

/-- Whether a label may be. -/
def fitsB (a b : ByteArray) : Bool := nameB a.data.toList && (!b.toList.isEmpty && decide ((b.size : Int) ≤ 60))

set_option maxHeartbeats 1000000 in
set_option maxRecDepth 100000 in
theorem fits_any (a b : ByteArray) (w : World) :
    Calls Try.prog 39 #[.agg #[.string a, .string b]] w fun e w' => e = .returned (.bool (fitsB a b)) ∧ Below w.heap.size w w' := by
  go_enter Try.func39, Try.ntmps39
  go_wp2_with (go_at_call 45; refine (name_any _ _).mono ?_; rintro e wq ⟨rfl, bq⟩; obtain ⟨hc, hf⟩ := bcell bq; have hz := bq.size)
  all_goals
    go_ret
    refine ⟨ret_bool ?_, ((Below.refl _ _).alloc (Nat.le_refl _) _).trans (bq.mono (by simp only [World.size_alloc]; omega))⟩
    unfold fitsB
    simp [*]
end Go.Proofs.Ytmidpekkomhogaa
end
