/- The law: one bit turned, another sum. -/
import Derived.Test.YtldlfmeppcdbbaaCf
import Derived.Lib.ConvBytes
import Derived.Deep.OwnRows
namespace Go.Proofs.Ytldlfmeppcdbbaa.Crc
open Go.RowKit Go.Lib

/-- A row of bytes of one's own: what stands in its cells. -/
structure BRow (w : World) (g : Nat) (l : List UInt8) : Prop where
  lt : g < w.heap.size
  cell : ∀ j (h : j < l.length), w.cell? ⟨g, j, none⟩ = some (.int .u8 (l[j].toNat : Nat))
  free : ∀ j, j < l.length → w.frozen? ⟨g, j, none⟩ = false
theorem BRow.set {w : World} {g : Nat} {l : List UInt8} (h : BRow w g l) (i : Nat) (hi : i < l.length) (c : UInt8) : BRow (w.setCell ⟨g, i, none⟩ (.int .u8 (c.toNat : Nat))) g (l.set i c) := by
  refine ⟨by simpa [World.setCell] using h.lt, fun j hj => ?_, fun j hj => ?_⟩
  · have hj2 : j < l.length := by rwa [List.length_set] at hj
    by_cases e : j = i
    · subst e
      rw [World.cell?_setCell_same (h := h.cell j hj2), List.getElem_set_self]
    · rw [World.cell?_setCell_other (h := show (⟨g, i, none⟩ : Addr) ≠ ⟨g, j, none⟩ from fun x => e (by cases x; rfl)), List.getElem_set_ne (Ne.symm e)]
      exact h.cell j hj2
  · rw [List.length_set] at hj
    rw [World.frozen?_setCell]; exact h.free j hj
theorem BRow.drew {w : World} {g : Nat} {l : List UInt8} (h : BRow w g l) : BRow w.drew g l := ⟨h.lt, h.cell, h.free⟩
theorem BRow.below {w w' : World} {g : Nat} {l : List UInt8} (h : BRow w g l) (hb : Below w.heap.size w w') : BRow w' g l :=
  ⟨Nat.lt_of_lt_of_le h.lt hb.size, fun j hj => (hb.cell (p := ⟨g, j, none⟩) h.lt).trans (h.cell j hj), fun j hj => (hb.frozen (p := ⟨g, j, none⟩) h.lt).trans (h.free j hj)⟩
theorem brow_new (w : World) (s : ByteArray) : BRow (bytesWorld w 5 s) w.heap.size s.data.toList := by
  refine ⟨by rw [bytesWorld_size]; omega, fun j hj => ?_, fun j hj => ?_⟩
  · rw [bytesWorld_cell w _ s j (by rw [Lib.size_eq]; exact hj), List.getD_eq_getElem?_getD, List.getElem?_eq_getElem hj]; rfl
  · have hj2 : j < (bytesCells w 5 s).size := by
      unfold bytesCells; rw [← Lib.size_eq] at hj; simp; omega
    simp [World.frozen?, bytesWorld_at_new]
    omega
theorem bytes_below (w : World) (s : ByteArray) : Below w.heap.size w (bytesWorld w 5 s) :=
  ⟨rfl, rfl, rfl, by rw [bytesWorld_size]; omega, fun k hk => bytesWorld_at_old w _ s k hk⟩
theorem addB (b j : Nat) : (⟨b, 0, none⟩ : Addr).add j = ⟨b, j, none⟩ := by
  unfold Addr.add
  split
  · next h => subst h; rfl
  · rw [Nat.zero_add]
/-- The row's bytes as a text. -/
theorem BRow.back {w : World} {g : Nat} {l : List UInt8} (h : BRow w g l) (n cap : Nat) (hn : l.length = n) (s : ByteArray) (hs : (⟨l.toArray⟩ : ByteArray) = s) : (convert 36 9 (.slice (some ⟨g, 0, none⟩) n cap)).run Try.prog w = .ok (.string s) w := by
  have h2 := run_convert_bytes_back (P := Try.prog) w 36 9 5 ⟨g, 0, none⟩ cap l Try.underlying36 Try.underlying5 Try.underlying9 (fun j hj => by rw [addB]; exact h.cell j hj)
  rw [hn, hs] at h2
  exact h2
theorem turn_bit (c : UInt8) (q : Nat) : bits .xor .u8 (c.toNat : Int) (128 / 2 ^ q) = ((flipB c q).toNat : Int) := by
  have h1 : 128 / 2 ^ q < 256 := Nat.lt_of_le_of_lt (Nat.div_le_self _ _) (by decide)
  have h2 : (128 : Int) / 2 ^ q = ((128 / 2 ^ q : Nat) : Int) := by rw [Int.natCast_ediv, Int.natCast_pow]; rfl
  rw [h2, u8_xor_nat _ _ c.toNat_lt h1]
  unfold flipB
  rw [u8, Nat.shiftRight_eq_div_pow, Nat.mod_eq_of_lt (Nat.xor_lt_two_pow (n := 8) c.toNat_lt h1)]
theorem flip_two (c : UInt8) (q : Nat) : flipB (flipB c q) q = c := by
  unfold flipB
  apply UInt8.toNat_inj.1
  rw [u8, u8]
  by_cases h : 128 >>> q < 256
  · rw [Nat.mod_eq_of_lt (Nat.xor_lt_two_pow (n := 8) c.toNat_lt h), Nat.xor_assoc, Nat.xor_self, Nat.xor_zero]
    exact Nat.mod_eq_of_lt c.toNat_lt
  · exact absurd (Nat.lt_of_le_of_lt (Nat.shiftRight_le _ _) (by decide)) h
/-- One bit turned: where it stands. -/
theorem flip_xor (l : List UInt8) (p q : Nat) (c : UInt8) (h : l[p]? = some c) (hq : q < 8) : bitsB (l.set p (flipB c q)) = xorL (bitsB l) ((List.replicate (8 * l.length) false).set (8 * p + q) true) := by
  have hp := (List.getElem?_eq_some_iff.1 h).1
  have h1 := xorL_set (bitsB l) (List.replicate (8 * l.length) false) (8 * p + q) (by rw [bitsB_len, List.length_replicate]) (by rw [List.getElem?_replicate, if_pos (by omega)])
  have h2 := xorL_zeros (bitsB l)
  rw [bitsB_len] at h2
  rw [h2] at h1
  rw [bits_flip l p q c h hq, h1]
theorem flip_sum (l : List UInt8) (p q : Nat) (c : UInt8) (h : l[p]? = some c) (hq : q < 8) : crcN (l.set p (flipB c q)) ≠ crcN l := by
  have hp := (List.getElem?_eq_some_iff.1 h).1
  refine crc_turn l _ _ (8 * p + q) (by rw [List.length_set, List.length_replicate]) (flip_xor l p q c h hq) (fun j hj e => ?_) ?_
  · rw [List.getElem_set] at e
    split at e
    · omega
    · rw [List.getElem_replicate] at e; cases e
  · exact List.mem_iff_getElem.2 ⟨8 * p + q, by rw [List.length_set, List.length_replicate]; omega, by rw [List.getElem_set_self]⟩
/-- A place among so many bits, as the statements take it of any number. -/
def placeN (a : Int) (M : Nat) : Nat := ((a.tmod M + M).tmod M).toNat
theorem place_lt (a : Int) (M : Nat) (h : 0 < M) : placeN a M < M := by
  unfold placeN
  have h1 := Int.tmod_lt_of_pos (a.tmod M + M) (b := M) (by omega)
  have h2 : 0 ≤ (a.tmod M + M).tmod M := Int.tmod_nonneg _ (by have := Int.lt_tmod_of_pos a (b := (M : Int)) (by omega); omega)
  omega
theorem place_is (a : Int) (M : Nat) (h : 0 < M) : (a.tmod M + M) % M = (placeN a M : Nat) := by
  have h1 := Int.lt_tmod_of_pos a (b := (M : Int)) (by omega)
  unfold placeN
  rw [Int.tmod_eq_emod_of_nonneg (a := a.tmod M + M) (by omega)]
  have := Int.emod_nonneg (a.tmod M + M) (b := M) (by omega)
  omega

end Go.Proofs.Ytldlfmeppcdbbaa.Crc
