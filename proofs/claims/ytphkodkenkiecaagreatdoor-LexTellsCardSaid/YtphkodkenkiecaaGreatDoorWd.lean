/- A walk: how a text is quoted. -/
import Derived.Test.YtphkodkenkiecaaGreatDoorWc
namespace Go.Proofs.YtphkodkenkiecaaGreatDoor
open Go.RowKit

/-- How one piece is written. -/
def chunkQ (t : List UInt8) : List UInt8 :=
  if (Lib.decodeL t).1 = 34 ∨ (Lib.decodeL t).1 = 92 then 92 :: Lib.encodeRune ((Lib.decodeL t).1 : Int)
  else if (Lib.decodeL t).1 = 10 then [92, 110]
  else if (Lib.decodeL t).1 = 65533 ∧ (Lib.decodeL t).2 = 1 then [92, 120, hexd ((t.getD 0 0).toNat / 16), hexd ((t.getD 0 0).toNat % 16)]
  else Lib.encodeRune ((Lib.decodeL t).1 : Int)
def bodyQ (l : List UInt8) : List UInt8 := (sufs l).flatMap chunkQ
def quoteL (l : List UInt8) : List UInt8 := 34 :: (bodyQ l ++ [34])

theorem chunkQ_len (t : List UInt8) : (chunkQ t).length ≤ 5 := by
  have := (Lib.encodeRuneZ_length ((Lib.decodeL t).1 : Int)).2
  have h : (Lib.encodeRune ((Lib.decodeL t).1 : Int)).length ≤ 4 := by simpa [Lib.encodeRune] using this
  unfold chunkQ
  split
  · simp; omega
  · split
    · simp
    · split
      · simp
      · omega

theorem sufs_at_flat {s : ByteArray} {pos : Nat} (h : pos < s.size) : bodyQ (s.data.toList.drop pos) = chunkQ (s.data.toList.drop pos) ++ bodyQ (s.data.toList.drop (pos + (Utf8.decode s pos).2)) := by
  unfold bodyQ; rw [sufs_at h, List.flatMap_cons]

/-- 0xFFFD as it should be, or a byte that is none. -/
theorem bad_iff (t : List UInt8) (hne : t ≠ []) (h : (Lib.decodeL t).1 = 65533) : (Lib.decodeL t).2 = 1 ↔ ¬ [239, 191, 189] <+: t := by
  constructor
  · intro hw hp
    obtain ⟨u, rfl⟩ := hp
    have := decodeL_encode_app 65533 u
    have e : Lib.encodeRune 65533 = [239, 191, 189] := by decide
    rw [e] at this
    rw [hw] at this
    exact absurd this.2 (by decide)
  · intro hp
    false_or_by_contra
    rename_i hw
    have hv : ¬ ((Lib.decodeL t).1 = 65533 ∧ (Lib.decodeL t).2 = 1) := fun x => hw x.2
    have e := Lib.encode_decode t hne hv
    rw [h] at e
    have e' : Lib.encodeRune ((65533 : Nat) : Int) = [239, 191, 189] := by decide
    rw [e'] at e
    exact hp (by rw [e]; exact List.take_prefix _ _)

theorem ret_str {a b : List UInt8} (h : a = b) : Ending.returned (.string ⟨a.toArray⟩) = .returned (.string ⟨b.toArray⟩) := by rw [h]

set_option maxHeartbeats 2000000 in
set_option maxRecDepth 100000 in
theorem quote_any (s : ByteArray) (w : World) (hs : s.size ≤ 1099511627776) :
    Calls Tryz.prog 102 #[.string s] w fun e w' => e = .returned (.string ⟨(quoteL s.data.toList).toArray⟩) ∧ Below w.heap.size w w' := by
  go_enter Tryz.func102, Tryz.ntmps102
  have hI0 := Lib.IsBuilderF.of (Lib.fresh_isBuilder 133 5 w)
  go_wp2_with (go_at_call 108; refine (Tryz.Builder_WriteByte_k w.heap.size w.heap.size [] 34 _ hI0 (by simp) (by simp)).mono ?_)
  rintro e W0 ⟨rfl, h0, b0, k0⟩
  have hb0 : Below w.heap.size w W0 := ((Below.refl _ w).alloc (Nat.le_refl _) _).trans b0
  have hz0 : w.heap.size < W0.heap.size := by have := b0.size; simp at this; omega
  have hI1 : Lib.IsBuilderF 133 5 w.heap.size w.heap.size (Lib.byteCells [34]) W0 := .inr h0
  clear h0 hI0 k0 b0
  go_wp2
  obtain ⟨K, hK⟩ : ∃ K, K = W0.heap.size := ⟨_, rfl⟩
  go_loopw [] (fun wr => ∃ (pos : Nat) (acc : List UInt8), Lib.IsBuilderF 133 5 w.heap.size w.heap.size (Lib.byteCells acc) wr ∧ wr.heap[W0.heap.size]? = some (.stringIter s pos) ∧ Below w.heap.size w wr ∧ Hid (acc ++ (bodyQ (s.data.toList.drop pos) ++ [34]) = quoteL s.data.toList) ∧ pos ≤ s.size ∧ acc.length ≤ 5 * pos + 1) (fun wr => s.size - wr.iterPos W0.heap.size)
  case atStart =>
    refine ⟨0, [34], hI1.alloc _, World.iter_heap W0 s 0, hb0.alloc (by omega) _, ?_, Nat.zero_le _, by simp⟩
    show _ = _
    simp [quoteL]
  case round =>
    obtain ⟨pos, acc, hI, hit, hbw, H, hps, hal⟩ := hrel
    have hpos0 := iterPos_of hit
    have hsz : W0.heap.size < wr.heap.size := (Array.getElem?_eq_some_iff.1 hit).1
    by_cases hp : pos < s.size
    · have hnx : ∀ ty, (Instr.next (.pointer (some ⟨W0.heap.size, 0, none⟩)) true ty).run Tryz.prog wr = _ := fun ty => Lib.run_next_any_at wr W0.heap.size s pos ty hit hp
      have hwd := width1 s pos
      have hwl := width_le hp
      have hd1 := decode_le s pos
      have hI2 := hI.iterAt hit (pos + (Utf8.decode s pos).2)
      have hit2 := Lib.iterAt_heap wr W0.heap.size s pos (pos + (Utf8.decode s pos).2) hit
      have hbw2 := Lib.below_iterAt hbw (k := W0.heap.size) (by omega) s (pos + (Utf8.decode s pos).2)
      have hsz2 : w.heap.size ≤ (wr.iterAt W0.heap.size s (pos + (Utf8.decode s pos).2)).heap.size := by rw [Lib.iterAt_size]; omega
      have H2 : Hid ((acc ++ chunkQ (s.data.toList.drop pos)) ++ (bodyQ (s.data.toList.drop (pos + (Utf8.decode s pos).2)) ++ [34]) = quoteL s.data.toList) := by
        show _ = _
        rw [← H.out, sufs_at_flat hp]; simp
      clear H
      have hcl := chunkQ_len (s.data.toList.drop pos)
      have hr0 : (-2147483648 : Int) ≤ ((Utf8.decode s pos).1 : Int) := by omega
      have hr1 : ((Utf8.decode s pos).1 : Int) ≤ 2147483647 := by omega
      have hlen : (Lib.byteCells acc).length + 8 ≤ 140737488355328 := by rw [Lib.byteCells_length]; omega
      by_cases h34 : (Utf8.decode s pos).1 = 34 ∨ (Utf8.decode s pos).1 = 92
      · have E : Hid (Lib.byteCells acc ++ [.int .u8 92] ++ Lib.runeCells ((Utf8.decode s pos).1 : Int) = Lib.byteCells (acc ++ chunkQ (s.data.toList.drop pos))) := by
          show _ = _
          unfold chunkQ; rw [Lib.decodeL_drop, if_pos h34, ← Lib.byteCells_encodeRune, List.append_assoc, Lib.byteCells_append]; rfl
        have t : ((((Utf8.decode s pos).1 : Int) == 34) = true) ∨ ((((Utf8.decode s pos).1 : Int) == 34) = false ∧ (((Utf8.decode s pos).1 : Int) == 92) = true) := by
          simp only [beq_iff_eq, beq_eq_false_iff_ne]; omega
        clear h34
        rcases t with t | ⟨t, t'⟩
        all_goals
          go_wp2_with (go_at_call 108; refine (Tryz.Builder_WriteByte_k w.heap.size w.heap.size _ 92 _ hI2 (by omega) hsz2).mono ?_)
          rintro e W1 ⟨rfl, h1, b1, k1⟩
          go_wp2_with (go_at_call 106; refine (Tryz.Builder_WriteRune_k w.heap.size w.heap.size _ _ hr0 hr1 _ (.inr h1) (by rw [List.length_append]; show _ + 1 + 4 ≤ _; omega) (by have := b1.size; omega)).mono ?_)
          rintro e W2 ⟨rfl, h2, b2, k2⟩
          have hF := h2
          have bF := b1.trans b2
          have kF := k1.trans k2
          clear h1 b1 k1 h2 b2 k2
          go_wp2
          go_roundw
          case rel => exact ⟨pos + (Utf8.decode s pos).2, acc ++ chunkQ (s.data.toList.drop pos), by first | (rw [← E.out]; exact .inr hF) | (rw [← E.out]; exact hF), kF.iter hit2 (by omega), hbw2.trans bF, H2, hwl, by rw [List.length_append]; omega⟩
          case measure => rw [iterPos_of (kF.iter hit2 (by omega)), hpos0]; omega
      · have t34 : (((Utf8.decode s pos).1 : Int) == 34) = false := by rw [beq_eq_false_iff_ne]; omega
        have t92 : (((Utf8.decode s pos).1 : Int) == 92) = false := by rw [beq_eq_false_iff_ne]; omega
        by_cases h10 : (Utf8.decode s pos).1 = 10
        · have E : Hid (Lib.byteCells acc ++ Lib.strCells ⟨#[92, 110]⟩ = Lib.byteCells (acc ++ chunkQ (s.data.toList.drop pos))) := by
            show _ = _
            unfold chunkQ; rw [Lib.decodeL_drop, if_neg h34, if_pos h10, Lib.byteCells_append]; rfl
          have t10 : (((Utf8.decode s pos).1 : Int) == 10) = true := by rw [beq_iff_eq]; omega
          have hL : (Lib.byteCells acc).length + (⟨#[92, 110]⟩ : ByteArray).size ≤ 140737488355328 := by show _ + 2 ≤ _; omega
          clear h34 h10
          go_wp2_with (go_at_call 110; refine (Tryz.Builder_WriteString_k w.heap.size w.heap.size _ ⟨#[92, 110]⟩ _ hI2 hL hsz2).mono ?_)
          rintro e W1 ⟨rfl, hF, bF, kF⟩
          go_wp2
          go_roundw
          case rel => exact ⟨pos + (Utf8.decode s pos).2, acc ++ chunkQ (s.data.toList.drop pos), by first | (rw [← E.out]; exact .inr hF) | (rw [← E.out]; exact hF), kF.iter hit2 (by omega), hbw2.trans bF, H2, hwl, by rw [List.length_append]; omega⟩
          case measure => rw [iterPos_of (kF.iter hit2 (by omega)), hpos0]; omega
        · have t10 : (((Utf8.decode s pos).1 : Int) == 10) = false := by rw [beq_eq_false_iff_ne]; omega
          by_cases hbad : (Utf8.decode s pos).1 = 65533
          · have tb : (((Utf8.decode s pos).1 : Int) == 65533) = true := by rw [beq_iff_eq]; omega
            have hx : (s.extract pos s.size).data.toList = s.data.toList.drop pos := by rw [Lib.extract_data, Lib.size_eq, List.take_of_length_le (by rw [List.length_drop]; omega)]
            have cH := Tryz.strings_HasPrefix (s.extract pos s.size) ⟨#[239, 191, 189]⟩ (wr.iterAt W0.heap.size s (pos + (Utf8.decode s pos).2))
            rw [hx] at cH
            have hbi := bad_iff (s.data.toList.drop pos) (drop_ne hp) (by rw [Lib.decodeL_drop]; exact hbad)
            cases hpf : Lib.hasPrefix (s.data.toList.drop pos) [239, 191, 189] with
            | true =>
              have hnw : ¬ (Lib.decodeL (s.data.toList.drop pos)).2 = 1 := by
                intro h; exact hbi.1 h (by unfold Lib.hasPrefix at hpf; exact List.isPrefixOf_iff_prefix.1 hpf)
              have E : Hid (Lib.byteCells acc ++ Lib.runeCells ((Utf8.decode s pos).1 : Int) = Lib.byteCells (acc ++ chunkQ (s.data.toList.drop pos))) := by
                show _ = _
                rw [Lib.decodeL_drop] at hnw
                unfold chunkQ; rw [Lib.decodeL_drop, if_neg h34, if_neg h10, if_neg (fun x => hnw x.2), Lib.byteCells_append, Lib.byteCells_encodeRune]
              have CH := Lib.hid (show Calls Tryz.prog 111 #[.string (s.extract pos s.size), .string ⟨#[239, 191, 189]⟩] (wr.iterAt W0.heap.size s (pos + (Utf8.decode s pos).2)) fun e w' => e = .returned (.bool true) ∧ w' = (wr.iterAt W0.heap.size s (pos + (Utf8.decode s pos).2)) by rw [← hpf]; exact cH)
              clear h34 h10 hbad hbi hnw hpf cH hx
              go_wp2_with (go_at_call 111; refine CH.out.mono ?_)
              rintro e w' ⟨rfl, rfl⟩
              go_wp2_with (go_at_call 106; refine (Tryz.Builder_WriteRune_k w.heap.size w.heap.size _ _ hr0 hr1 _ hI2 (by omega) hsz2).mono ?_)
              rintro e W1 ⟨rfl, hF, bF, kF⟩
              go_wp2
              go_roundw
              case rel => exact ⟨pos + (Utf8.decode s pos).2, acc ++ chunkQ (s.data.toList.drop pos), by first | (rw [← E.out]; exact .inr hF) | (rw [← E.out]; exact hF) | exact hF, kF.iter hit2 (by omega), hbw2.trans bF, H2, hwl, by rw [List.length_append]; omega⟩
              case measure => rw [iterPos_of (kF.iter hit2 (by omega)), hpos0]; omega
            | false =>
              have hyw : (Lib.decodeL (s.data.toList.drop pos)).2 = 1 := by
                refine hbi.2 (fun h => ?_)
                unfold Lib.hasPrefix at hpf
                rw [List.isPrefixOf_iff_prefix.2 h] at hpf; cases hpf
              have hg0 : (s.data.toList.drop pos).getD 0 0 = s[pos] := by
                rw [Lib.getD_dropU, Nat.add_zero]; simp [List.getD, hp]; rfl
              have E : Hid (acc ++ [92, 120, hexd (s[pos].toNat / 16), hexd (s[pos].toNat % 16)] = acc ++ chunkQ (s.data.toList.drop pos)) := by
                show _ = _
                rw [Lib.decodeL_drop] at hyw
                unfold chunkQ; rw [Lib.decodeL_drop, if_neg h34, if_neg h10, if_pos ⟨hbad, hyw⟩, hg0]
              have CH := Lib.hid (show Calls Tryz.prog 111 #[.string (s.extract pos s.size), .string ⟨#[239, 191, 189]⟩] (wr.iterAt W0.heap.size s (pos + (Utf8.decode s pos).2)) fun e w' => e = .returned (.bool false) ∧ w' = (wr.iterAt W0.heap.size s (pos + (Utf8.decode s pos).2)) by rw [← hpf]; exact cH)
              have hlt := s[pos].toNat_lt
              clear h34 h10 hbad hbi hyw hpf cH hx hg0
              go_wp2_with (go_at_call 111; refine CH.out.mono ?_)
              rintro e w' ⟨rfl, rfl⟩
              go_wp2_with (go_at_call 112; refine (writeByte_any w.heap.size w.heap.size acc s[pos].toNat (by omega) _ hI2 (by rw [Lib.byteCells_length] at hlen; omega) hsz2).mono ?_)
              rintro e W1 ⟨rfl, hF, bF, kF⟩
              go_wp2
              go_roundw
              case rel => exact ⟨pos + (Utf8.decode s pos).2, acc ++ chunkQ (s.data.toList.drop pos), by first | (rw [← E.out]; exact .inr hF) | (rw [← E.out]; exact hF) | exact hF, kF.iter hit2 (by omega), hbw2.trans bF, H2, hwl, by rw [List.length_append]; omega⟩
              case measure => rw [iterPos_of (kF.iter hit2 (by omega)), hpos0]; omega
          · have tb : (((Utf8.decode s pos).1 : Int) == 65533) = false := by rw [beq_eq_false_iff_ne]; omega
            have E : Hid (Lib.byteCells acc ++ Lib.runeCells ((Utf8.decode s pos).1 : Int) = Lib.byteCells (acc ++ chunkQ (s.data.toList.drop pos))) := by
              show _ = _
              unfold chunkQ; rw [Lib.decodeL_drop, if_neg h34, if_neg h10, if_neg (fun x => hbad x.1), Lib.byteCells_append, Lib.byteCells_encodeRune]
            clear h34 h10 hbad
            go_wp2_with (go_at_call 106; refine (Tryz.Builder_WriteRune_k w.heap.size w.heap.size _ _ hr0 hr1 _ hI2 (by omega) hsz2).mono ?_)
            rintro e W1 ⟨rfl, hF, bF, kF⟩
            go_wp2
            go_roundw
            case rel => exact ⟨pos + (Utf8.decode s pos).2, acc ++ chunkQ (s.data.toList.drop pos), by first | (rw [← E.out]; exact .inr hF) | (rw [← E.out]; exact hF), kF.iter hit2 (by omega), hbw2.trans bF, H2, hwl, by rw [List.length_append]; omega⟩
            case measure => rw [iterPos_of (kF.iter hit2 (by omega)), hpos0]; omega
    · have hnx : ∀ ty, (Instr.next (.pointer (some ⟨W0.heap.size, 0, none⟩)) true ty).run Tryz.prog wr = _ := fun ty => Lib.run_next_end_at wr W0.heap.size s pos ty hit hp
      have H2 : Hid (acc ++ [34] = quoteL s.data.toList) := by
        show _ = _
        rw [← H.out, drop_end hp]; rfl
      clear H
      go_wp2_with (go_at_call 108; refine (Tryz.Builder_WriteByte_k w.heap.size w.heap.size _ 34 _ hI (by rw [Lib.byteCells_length]; omega) (by omega)).mono ?_)
      rintro e W1 ⟨rfl, h1, b1, k1⟩
      have h1' : Lib.IsBuilderF 133 5 w.heap.size w.heap.size (Lib.byteCells (acc ++ [34])) W1 := by rw [Lib.byteCells_append]; exact .inr h1
      go_wp2_with (go_at_call 109; refine (Tryz.Builder_String_any_k w.heap.size w.heap.size (acc ++ [34]) _ h1' (by have := b1.size; omega)).mono ?_)
      rintro e W2 ⟨rfl, _, b2, _⟩
      go_wp2
      go_ret
      exact ⟨ret_str H2.out, (hbw.trans b1).trans b2⟩
end Go.Proofs.YtphkodkenkiecaaGreatDoor
