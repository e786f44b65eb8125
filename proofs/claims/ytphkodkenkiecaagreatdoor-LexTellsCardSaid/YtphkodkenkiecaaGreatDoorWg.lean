/- A walk: a text with its escapes is read. -/
import Derived.Test.YtphkodkenkiecaaGreatDoorWf
namespace Go.Proofs.YtphkodkenkiecaaGreatDoor
open Go.RowKit

def unescGo : Nat → Nat → List UInt8 → Option (List UInt8)
  | 0, _, _ => some []
  | f + 1, k, l =>
    if l = [] then some []
    else if 0 < k then unescGo f (k - (Lib.decodeL l).2) (l.drop (Lib.decodeL l).2)
    else if (Lib.decodeL l).1 ≠ 92 then (unescGo f 0 (l.drop (Lib.decodeL l).2)).map (Lib.encodeRune ((Lib.decodeL l).1 : Int) ++ ·)
    else if (escL l).2 = 0 then none
    else (unescGo f ((escL l).2 - (Lib.decodeL l).2) (l.drop (Lib.decodeL l).2)).map ((escL l).1.toUInt8 :: ·)
def unescL (l : List UInt8) : Option (List UInt8) := unescGo l.length 0 l
def pre (acc : List UInt8) (o : Option (List UInt8)) : Option (List UInt8) := o.map (acc ++ ·)
theorem pre_nil (o : Option (List UInt8)) : pre [] o = o := by cases o <;> simp [pre]
theorem pre_map (acc x : List UInt8) (o : Option (List UInt8)) : pre acc (o.map (x ++ ·)) = pre (acc ++ x) o := by cases o <;> simp [pre]
theorem pre_cons (acc : List UInt8) (x : UInt8) (o : Option (List UInt8)) : pre acc (o.map (x :: ·)) = pre (acc ++ [x]) o := by cases o <;> simp [pre]
def UEnd (o : Option (List UInt8)) (e : Ending) : Prop :=
  match o with
  | some t => e = .returned (.tuple #[.string ⟨t.toArray⟩, .bool true])
  | none => e = .returned (.tuple #[.string ⟨#[]⟩, .bool false])
theorem UEnd_some {o : Option (List UInt8)} {t : List UInt8} (h : some t = o) : UEnd o (.returned (.tuple #[.string ⟨t.toArray⟩, .bool true])) := by rw [← h]; rfl
theorem UEnd_none {o : Option (List UInt8)} (h : none = o) : UEnd o (.returned (.tuple #[.string ⟨#[]⟩, .bool false])) := by rw [← h]; rfl

theorem escL_bd (l : List UInt8) : (escL l).2 ≤ 4 ∧ (escL l).1 < 256 := by
  have hb := (l.getD 1 0).toNat_lt
  unfold escL
  split
  · simp
  · split
    · exact ⟨by simp, hb⟩
    · split
      · simp
      · split
        · split
          · simp
          · unfold escX
            split
            · rename_i v hv
              have h1 := hexGo_lt _ _ _ hv
              have h2 : ((l.drop 2).take 2).length ≤ 2 := by rw [List.length_take]; omega
              have h3 : 16 ^ ((l.drop 2).take 2).length ≤ 16 ^ 2 := Nat.pow_le_pow_right (by omega) h2
              simp; omega
            · simp
        · simp

theorem builderF_below {T e : TypeId} {B b : Nat} {bs : List Value} {W W' : World} (h : Lib.IsBuilderF T e B b bs W) (hb : Below W.heap.size W W') : Lib.IsBuilderF T e B b bs W' := by
  have key : ∀ p, Lib.BuilderAtF T e B b p bs W → Lib.BuilderAtF T e B b p bs W' := by
    rintro p ⟨hB, v, hh, hown, hne⟩
    have hlt : b < W.heap.size := (Array.getElem?_eq_some_iff.1 hh).1
    refine ⟨hB, v, (hb.block b hlt).trans hh, ⟨hown.1, ?_⟩, hne⟩
    rcases hown.2 with hn | ⟨g, cap, cur, fz, hv, hbg, hg, rest⟩
    · exact .inl hn
    · have hgl : g < W.heap.size := (Array.getElem?_eq_some_iff.1 hg).1
      exact .inr ⟨g, cap, cur, fz, hv, hbg, (hb.block g hgl).trans hg, rest⟩
  exact h.elim (fun x => .inl (key _ x)) (fun x => .inr (key _ x))
theorem iter_below {W W' : World} {k : Nat} {s : ByteArray} {p : Nat} (h : W.heap[k]? = some (.stringIter s p)) (hb : Below W.heap.size W W') : W'.heap[k]? = some (.stringIter s p) :=
  (hb.block k (Array.getElem?_eq_some_iff.1 h).1).trans h

set_option maxHeartbeats 2000000 in
set_option maxRecDepth 100000 in
theorem unescape_any (s : ByteArray) (hs : s.size ≤ 1099511627776) (ev : Value) (w : World) (h0 : 0 < w.heap.size) (hG : w.cell? ⟨0, 0, none⟩ = some ev) (hev : ev = .nilIface ∨ ∃ te pe, ev = .iface te pe) :
    Calls Tryz.prog 101 #[.string s] w fun e w' => UEnd (unescL s.data.toList) e ∧ Below w.heap.size w w' := by
  have HEV := Lib.hid hev
  clear hev
  go_enter Tryz.func101, Tryz.ntmps101
  go_wp2
  go_loopw [5] (fun vn wr => ∃ (pos fuel nx : Nat) (acc : List UInt8), Lib.IsBuilderF 133 5 w.heap.size w.heap.size (Lib.byteCells acc) wr ∧ wr.heap[w.heap.size + 1]? = some (.stringIter s pos) ∧ Below w.heap.size w wr ∧ vn = .int .i64 nx ∧ Hid (pre acc (unescGo fuel (nx - pos) (s.data.toList.drop pos)) = unescL s.data.toList) ∧ s.size ≤ pos + fuel ∧ nx ≤ pos + 4 ∧ pos ≤ s.size ∧ acc.length ≤ 4 * pos) (fun _ wr => s.size - wr.iterPos (w.heap.size + 1))
  case atStart =>
    refine ⟨0, s.data.toList.length, 0, [], (Lib.IsBuilderF.of (Lib.fresh_isBuilder 133 5 w)).alloc _, ?_, ((Below.refl _ w).alloc (Nat.le_refl _) _).alloc (by simp) _, rfl, ?_, by rw [← Lib.size_eq]; omega, by omega, by omega, by simp⟩
    · have := World.iter_heap (w.alloc (.cells #[.pointer none, .slice none 0 0] 133)) s 0
      simpa using this
    · show _ = _
      rw [pre_nil]; simp [unescL]
  case round =>
    obtain ⟨pos, fuel, nx, acc, hI, hit, hbw, rfl, H, hfu, hnx4, hps, hal⟩ := hrel
    have hpos0 := iterPos_of hit
    have hsz : w.heap.size + 1 < wr.heap.size := (Array.getElem?_eq_some_iff.1 hit).1
    by_cases hp : pos < s.size
    · have hnx : ∀ ty, (Instr.next (.pointer (some ⟨w.heap.size + 1, 0, none⟩)) true ty).run Tryz.prog wr = _ := fun ty => Lib.run_next_any_at wr (w.heap.size + 1) s pos ty hit hp
      have hwd := width1 s pos
      have hwl := width_le hp
      have hd1 := decode_le s pos
      have hI2 := hI.iterAt hit (pos + (Utf8.decode s pos).2)
      have hit2 := Lib.iterAt_heap wr (w.heap.size + 1) s pos (pos + (Utf8.decode s pos).2) hit
      have hbw2 := Lib.below_iterAt hbw (k := w.heap.size + 1) (by omega) s (pos + (Utf8.decode s pos).2)
      have hsz2 : w.heap.size ≤ (wr.iterAt (w.heap.size + 1) s (pos + (Utf8.decode s pos).2)).heap.size := by rw [Lib.iterAt_size]; omega
      obtain ⟨f, rfl⟩ : ∃ f, fuel = f + 1 := ⟨fuel - 1, by omega⟩
      have hne := Lib.hid (drop_ne hp)
      by_cases hsk : pos < nx
      · have H2 : Hid (pre acc (unescGo f (nx - (pos + (Utf8.decode s pos).2)) (s.data.toList.drop (pos + (Utf8.decode s pos).2))) = unescL s.data.toList) := by
          show _ = _
          rw [← H.out, unescGo, if_neg hne.out, if_pos (by omega), Lib.decodeL_drop, List.drop_drop]
          congr 2; omega
        clear H
        have i1 : ((pos : Int) < (nx : Int)) := by omega
        go_wp2
        go_roundw
        case rel => exact ⟨pos + (Utf8.decode s pos).2, f, nx, acc, hI2, hit2, hbw2, rfl, H2, by omega, by omega, hwl, by omega⟩
        case measure => rw [iterPos_of hit2, hpos0]; omega
      · have hz : nx - pos = 0 := by omega
        have H1 := Lib.hid (show pre acc (unescGo (f + 1) 0 (s.data.toList.drop pos)) = unescL s.data.toList by rw [← hz]; exact H.out)
        clear H hz
        have i1 : ((nx : Int) ≤ (pos : Int)) := by omega
        by_cases h92 : (Utf8.decode s pos).1 = 92
        · have t : (((Utf8.decode s pos).1 : Int) != 92) = false := by rw [bne_eq_false_iff_eq]; omega
          have hx : (s.extract pos s.size).data.toList = s.data.toList.drop pos := by rw [Lib.extract_data, Lib.size_eq, List.take_of_length_le (by rw [List.length_drop]; omega)]
          obtain ⟨W2, hW2⟩ : ∃ W2, W2 = wr.iterAt (w.heap.size + 1) s (pos + (Utf8.decode s pos).2) := ⟨_, rfl⟩
          rw [← hW2] at hnx hI2 hit2 hbw2 hsz2
          have cE := escape_any (s.extract pos s.size) (by rw [ByteArray.size_extract]; omega) ev W2 (by omega) (by rw [hbw2.cell (p := ⟨0, 0, none⟩) h0]; exact hG) HEV.out
          rw [hx] at cE
          obtain ⟨hn4, hc8⟩ := escL_bd (s.data.toList.drop pos)
          have H2 := H1.out
          rw [unescGo, if_neg hne.out, if_neg (by omega), Lib.decodeL_drop, if_neg (by omega), List.drop_drop] at H2
          clear H1 hW2 hx
          obtain ⟨c, hc⟩ : ∃ c, c = (escL (s.data.toList.drop pos)).1 := ⟨_, rfl⟩
          obtain ⟨n, hn⟩ : ∃ n, n = (escL (s.data.toList.drop pos)).2 := ⟨_, rfl⟩
          rw [← hc] at cE H2 hc8
          rw [← hn] at cE H2 hn4
          clear hc hn
          have CE := Lib.hid cE
          clear cE
          by_cases hn0 : n = 0
          · have HN : Hid (none = unescL s.data.toList) := by
              show _ = _
              rw [← H2, if_pos hn0]; rfl
            clear H2
            subst hn0
            go_wp2_with (go_at_call 107; refine CE.out.mono ?_)
            rintro e W3 ⟨rfl, b3⟩
            go_wp2
            go_ret2
            exact ⟨UEnd_none HN.out, hbw2.trans (b3.mono hsz2)⟩
          · rw [if_neg hn0, pre_cons] at H2
            have HN := Lib.hid H2
            have t0 : ((n : Int) == 0) = false := by rw [beq_eq_false_iff_ne]; omega
            have HC : Hid ([Value.int .u8 (c : Int)] = Lib.byteCells [c.toUInt8]) := by
              show _ = _
              simp [Lib.byteCells]; omega
            clear H2 hn0 h92
            go_wp2_with (go_at_call 107; refine CE.out.mono ?_)
            rintro e W3 ⟨rfl, b3⟩
            have hI3 := builderF_below hI2 b3
            have hit3 := iter_below hit2 b3
            have hbw3 := hbw2.trans (b3.mono hsz2)
            have hsz3 : w.heap.size ≤ W3.heap.size := by have := b3.size; omega
            clear hI2 hit2 hbw2 hsz2 b3
            go_wp2_with (go_at_call 108; refine (Tryz.Builder_WriteByte_k w.heap.size w.heap.size _ (c : Int) _ hI3 (by rw [Lib.byteCells_length]; omega) hsz3).mono ?_)
            rintro e W4 ⟨rfl, h4, b4, k4⟩
            go_wp2
            go_roundw
            case rel =>
              refine ⟨pos + (Utf8.decode s pos).2, f, pos + n, acc ++ [c.toUInt8], ?_, k4.iter hit3 (by omega), hbw3.trans b4, by go_num, ?_, by omega, by omega, hwl, by rw [List.length_append]; simp; omega⟩
              · rw [Lib.byteCells_append, ← HC.out]; exact .inr h4
              · show _ = _
                rw [← HN.out]
                congr 2; omega
            case measure => rw [iterPos_of (k4.iter hit3 (by omega)), hpos0]; omega
        · have t : (((Utf8.decode s pos).1 : Int) != 92) = true := by rw [bne_iff_ne]; omega
          have H2 : Hid (pre (acc ++ Lib.encodeRune ((Utf8.decode s pos).1 : Int)) (unescGo f 0 (s.data.toList.drop (pos + (Utf8.decode s pos).2))) = unescL s.data.toList) := by
            show _ = _
            rw [← H1.out, unescGo, if_neg hne.out, if_neg (by omega), Lib.decodeL_drop, if_pos h92, List.drop_drop, pre_map]
          have hz2 : nx - (pos + (Utf8.decode s pos).2) = 0 := by omega
          have HZ := Lib.hid hz2
          clear H1 h92 hz2
          go_wp2_with (go_at_call 106; refine (Tryz.Builder_WriteRune_k w.heap.size w.heap.size _ _ (by omega) (by omega) _ hI2 (by rw [Lib.byteCells_length]; omega) hsz2).mono ?_)
          rintro e W1 ⟨rfl, h1, b1, k1⟩
          go_wp2
          go_roundw
          case rel =>
            have hl4 := Lib.runeCells_le ((Utf8.decode s pos).1 : Int)
            rw [Lib.runeCells_length] at hl4
            refine ⟨pos + (Utf8.decode s pos).2, f, nx, acc ++ Lib.encodeRune ((Utf8.decode s pos).1 : Int), ?_, k1.iter hit2 (by omega), hbw2.trans b1, rfl, ?_, by omega, by omega, hwl, by rw [List.length_append]; omega⟩
            · rw [Lib.byteCells_append, Lib.byteCells_encodeRune]; exact .inr h1
            · rw [HZ.out]; exact H2
          case measure => rw [iterPos_of (k1.iter hit2 (by omega)), hpos0]; omega
    · have hnx : ∀ ty, (Instr.next (.pointer (some ⟨w.heap.size + 1, 0, none⟩)) true ty).run Tryz.prog wr = _ := fun ty => Lib.run_next_end_at wr (w.heap.size + 1) s pos ty hit hp
      have H2 : Hid (some acc = unescL s.data.toList) := by
        show _ = _
        rw [← H.out, drop_end hp]
        cases fuel <;> simp [unescGo, pre]
      clear H
      go_wp2_with (go_at_call 109; refine (Tryz.Builder_String_any_k w.heap.size w.heap.size acc _ hI (by omega)).mono ?_)
      rintro e W1 ⟨rfl, _, b1, _⟩
      go_wp2
      go_ret2
      exact ⟨UEnd_some H2.out, hbw.trans b1⟩
end Go.Proofs.YtphkodkenkiecaaGreatDoor
