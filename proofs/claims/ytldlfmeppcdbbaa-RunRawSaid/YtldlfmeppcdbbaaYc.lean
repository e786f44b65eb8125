/- A walk: bytes are read from their beginning on. -/
import Derived.Test.YtldlfmeppcdbbaaYb
import Derived.OneCell
import Derived.Lib.ConvBytes
import Derived.Laws.BitsLemmas
import Derived.Laws.OwnMore
import Derived.Deep.DeepMust
namespace Go.Proofs.Ytldlfmeppcdbbaa.Row
open Go.RowKit Go.Proofs.Ytldlfmeppcdbbaa.Crc

abbrev Stt := List UInt8 × Bool
/-- The reader: what it has left, and whether too little was left once. -/
def Rd (w : World) (bd : Nat) (st : Stt) : Prop := w.heap[bd]? = some (.cells #[.string ⟨st.1.toArray⟩, .bool st.2] 122 (0, 0))
theorem Rd.lt {w : World} {bd : Nat} {st : Stt} (h : Rd w bd st) : bd < w.heap.size := (Array.getElem?_eq_some_iff.1 h).1
theorem grown_of_below {w w' : World} (h : Below w.heap.size w w') (r : Option Nat) : w.grownBy w' r := ⟨h.os, h.tape, h.output, h.size, fun k hk _ => h.block k hk⟩
theorem grown_trans {a b c : World} {r : Option Nat} (h : a.grownBy b r) (k : b.grownBy c r) : a.grownBy c r :=
  ⟨k.os.trans h.os, k.tape.trans h.tape, k.output.trans h.output, Nat.le_trans h.size k.size, fun i hi hr => (k.block i (Nat.lt_of_lt_of_le hi h.size) hr).trans (h.block i hi hr)⟩
theorem grown_refl (w : World) (r : Option Nat) : w.grownBy w r := ⟨rfl, rfl, rfl, Nat.le_refl _, fun _ _ _ => rfl⟩
theorem grown_set (w : World) (bd i : Nat) (u : Value) : w.grownBy (w.setCell ⟨bd, i, none⟩ u) (some bd) :=
  ⟨rfl, rfl, rfl, by simp [World.setCell], fun k _ hk => heap_setCell_other w ⟨bd, i, none⟩ k u (fun e => hk (by simp [e]))⟩
theorem Rd.reads {w : World} {bd : Nat} {st : Stt} (h : Rd w bd st) : w.cell? ⟨bd, 0, none⟩ = some (.string ⟨st.1.toArray⟩) ∧ w.cell? ⟨bd, 1, none⟩ = some (.bool st.2) ∧ w.frozen? ⟨bd, 0, none⟩ = false ∧ w.frozen? ⟨bd, 1, none⟩ = false := by
  unfold Rd at h
  refine ⟨?_, ?_, ?_, ?_⟩ <;> simp [World.cell?, World.frozen?, h]
theorem Rd.below {w w' : World} {bd : Nat} {st : Stt} (h : Rd w bd st) (hb : Below w.heap.size w w') : Rd w' bd st := (hb.block bd h.lt).trans h
theorem Rd.shorter {w : World} {bd : Nat} {st : Stt} (h : Rd w bd st) : Rd (w.setCell ⟨bd, 1, none⟩ (.bool true)) bd (st.1, true) :=
  heap_setCell_same w bd 1 _ _ _ h
theorem Rd.left {w : World} {bd : Nat} {st : Stt} (h : Rd w bd st) (s : ByteArray) (l : List UInt8) (e : s = ⟨l.toArray⟩) : Rd (w.setCell ⟨bd, 0, none⟩ (.string s)) bd (l, st.2) := by
  subst e
  exact heap_setCell_same w bd 0 _ _ _ h
theorem str_data (l : List UInt8) : (⟨l.toArray⟩ : ByteArray).data.toList = l := by simp
theorem str_size (l : List UInt8) : (⟨l.toArray⟩ : ByteArray).size = l.length := by simp [ByteArray.size]

theorem ext_upto (s : ByteArray) (k : Nat) : s.extract 0 k = ⟨(s.data.toList.take k).toArray⟩ :=
  bytes_ext (by rw [ByteArray.data_extract]; simp)
theorem ext_from (s : ByteArray) (k : Nat) : s.extract k s.size = ⟨(s.data.toList.drop k).toArray⟩ :=
  bytes_ext (by
    rw [ByteArray.data_extract, show s.size = s.data.size from rfl, Array.toList_extract]
    simp [List.extract, List.take_of_length_le])
set_option maxHeartbeats 2000000 in
set_option maxRecDepth 100000 in
theorem take_any (bd n : Nat) (st : Stt) (w : World) (h : Rd w bd st) (hl : st.1.length ≤ maxLen) (hn : n ≤ 1000) :
    Calls Try.prog 80 #[.pointer (some ⟨bd, 0, none⟩), .int .i64 n] w fun e w' => e = .returned (.string ⟨(takeP n st).1.toArray⟩) ∧ Rd w' bd (takeP n st).2 ∧ w.grownBy w' (some bd) := by
  obtain ⟨l, sh⟩ := st
  obtain ⟨c0, c1, f0, f1⟩ := h.reads
  obtain ⟨s, hs⟩ : ∃ s : ByteArray, ⟨l.toArray⟩ = s := ⟨_, rfl⟩
  have hsl : s.data.toList = l := by rw [← hs, str_data]
  have hsz : s.size = l.length := by rw [← hs, str_size]
  have H := Lib.hid h
  rw [hs] at c0
  have HS := Lib.hid hsl
  unfold maxLen at hl
  simp only [] at hl
  clear h hs hsl
  by_cases hc : l.length < n
  · have j1 : (s.size : Int) < n := by omega
    have HE := Lib.hid (show takeP n (l, sh) = ([], (l, true)) by unfold takeP; rw [if_pos hc])
    clear hc
    go_enter Try.func80, Try.ntmps80
    go_wp2
    go_ret
    rw [HE.out]
    exact ⟨rfl, H.out.shorter, grown_set _ _ _ _⟩
  · have j1 : (n : Int) ≤ s.size := by omega
    have HE := Lib.hid (show takeP n (l, sh) = (l.take n, (l.drop n, sh)) by unfold takeP; rw [if_neg hc])
    clear hc
    go_enter Try.func80, Try.ntmps80
    go_wp2
    go_ret
    rw [HE.out]
    exact ⟨ret_s (by rw [← HS.out]; exact ext_upto s n), H.out.left _ _ (by rw [← hsz, ext_from, HS.out]), grown_set _ _ _ _⟩

theorem wraps_i64 (n : Int) (h₀ : 0 ≤ n) (h₁ : n < 2 ^ 62) : IntKind.i64.wrap n = n := by
  simp [IntKind.wrap, IntKind.bits, IntKind.signed]; omega
theorem or_byte (v c : Nat) (hv : v < 281474976710656) (hc : c < 256) : bits .or .i64 ((v : Int) * 256) c = ((v * 256 + c : Nat) : Int) := by
  have h := bits_join .i64 62 (by decide) wraps_i64 8 ((v : Int) * 256) c (by omega) (by omega) (by omega) (by omega) (by omega) (by omega)
  rw [h]; omega
set_option maxHeartbeats 4000000 in
set_option maxRecDepth 100000 in
theorem number_any (bd n : Nat) (st : Stt) (w : World) (h : Rd w bd st) (hl : st.1.length ≤ maxLen) (hn : n ≤ 7) :
    Calls Try.prog 77 #[.pointer (some ⟨bd, 0, none⟩), .int .i64 n] w fun e w' => e = .returned (.int .i64 (numP n st).1) ∧ Rd w' bd (numP n st).2 ∧ w.grownBy w' (some bd) := by
  have HT := Lib.hid (take_any bd n st w h hl (by omega))
  have hlt := h.lt
  obtain ⟨t, ht⟩ : ∃ t, (takeP n st).1 = t := ⟨_, rfl⟩
  have htl : t.length ≤ 7 := by
    rw [← ht]; unfold takeP; split
    · simp
    · rw [List.length_take]; omega
  have HE := Lib.hid (show numP n st = (valA 0 t, (takeP n st).2) by unfold numP; rw [ht])
  rw [ht] at HT
  obtain ⟨s, hs⟩ : ∃ s : ByteArray, ⟨t.toArray⟩ = s := ⟨_, rfl⟩
  have hsl : s.data.toList = t := by rw [← hs, str_data]
  have hsz : s.size = t.length := by rw [← hs, str_size]
  rw [hs] at HT
  obtain ⟨m, hm⟩ : ∃ m, s.size = m := ⟨_, rfl⟩
  have HSL := Lib.hid hsl
  have HM := Lib.hid (show t.length = m by omega)
  have hm7 : m ≤ 7 := by omega
  have hconv : ∀ W : World, (convert 9 36 (.string s)).run Try.prog W = .ok (.slice (some ⟨W.heap.size, 0, none⟩) m (grownCap W m 0 5)) (Lib.bytesWorld W 5 s) := fun W => by
    rw [Lib.run_convert_string_bytes (P := Try.prog) W 9 36 5 s Try.underlying9 Try.underlying36 Try.underlying5, hm]
  have HC := Lib.hid (fun (W : World) (j : Nat) (hj : j < m) => Lib.bytesWorld_cell W 5 s j (by omega))
  clear h hl hs hsl hsz hm ht htl
  go_enter Try.func77, Try.ntmps77
  go_wp2_with fail
  refine HT.out.mono ?_
  rintro e w1 ⟨rfl, h1, g1⟩
  have H1 := Lib.hid (And.intro h1 g1)
  obtain ⟨WB, hWB⟩ : ∃ WB, Lib.bytesWorld w1 5 s = WB := ⟨_, rfl⟩
  have HW := Lib.hid hWB
  have HCB := Lib.hid (fun (j : Nat) (hj : j < m) => (show WB.cell? ⟨w1.heap.size, j, none⟩ = some (.int .u8 (s.data.toList.getD j 0).toNat) by rw [← hWB]; exact HC.out w1 j hj))
  have HG := Lib.hid (show Below w1.heap.size w1 WB by
    rw [← hWB]
    exact ⟨rfl, rfl, rfl, by rw [Lib.bytesWorld_size]; omega, fun k hk => Lib.bytesWorld_at_old w1 _ s k hk⟩)
  clear h1 g1 hWB
  go_wp2_with fail
  rw [HW.out]
  go_loopw [5, 7, 13] (fun v5 v7 v13 wr => ∃ k : Nat, v13 = .int .i64 k ∧ k ≤ m ∧ v5 = .int .i64 (valA 0 (t.take k) : Nat) ∧ wr = WB) (fun _ _ v13 _ => m - (Go.RowKit.intOf v13).toNat)
  case atStart => exact ⟨0, rfl, Nat.zero_le _, rfl, rfl⟩
  case round =>
    obtain ⟨k, rfl, hk, rfl, rfl⟩ := hrel
    by_cases hkm : k < m
    · have j1 : (k : Int) < m := by omega
      have c0 := HCB.out k hkm
      have hkt : k < t.length := by rw [HM.out]; omega
      obtain ⟨c, hc⟩ : ∃ c : UInt8, s.data.toList.getD k 0 = c := ⟨_, rfl⟩
      rw [hc] at c0
      rw [HSL.out, List.getD, List.getElem?_eq_getElem hkt, Option.getD_some] at hc
      have HV := Lib.hid (show valA 0 (t.take (k + 1)) = valA 0 (t.take k) * 256 + c.toNat by
        rw [List.take_succ_eq_append_getElem hkt, valA_snoc, hc])
      have hv := valA_lt (t.take k) 0
      rw [Nat.zero_add, Nat.one_mul, List.length_take, Nat.min_eq_left (by omega)] at hv
      have hp : 256 ^ k ≤ 256 ^ 6 := Nat.pow_le_pow_right (by decide) (by omega)
      have hcn : c.toNat < 256 := c.toNat_lt
      obtain ⟨v, hvv⟩ : ∃ v, valA 0 (t.take k) = v := ⟨_, rfl⟩
      rw [hvv] at hv HV ⊢
      have hv6 : v < 281474976710656 := Nat.lt_of_lt_of_le hv hp
      clear hv hp hvv hc hkt
      go_wp2_with fail
      have hbits := or_byte v c.toNat hv6 hcn
      go_wp2
      go_roundw
      case rel => exact ⟨k + 1, by go_num, by omega, by rw [hbits, HV.out], trivial⟩
      case measure => simp [Go.RowKit.intOf]; omega
    · have j1 : (m : Int) ≤ k := by omega
      have HV := Lib.hid (show (valA 0 (t.take k) : Nat) = (numP n st).1 by rw [HE.out, List.take_of_length_le (by rw [HM.out]; omega)])
      rw [HV.out]
      go_wp2
      go_ret
      rw [HE.out]
      exact ⟨rfl, H1.out.1.below HG.out, grown_trans H1.out.2 (grown_of_below HG.out _)⟩

theorem takeP_len (n : Nat) (st : Stt) : (takeP n st).2.1.length ≤ st.1.length := by
  unfold takeP; split
  · exact Nat.le_refl _
  · rw [List.length_drop]; omega
theorem takeP_small (n : Nat) (st : Stt) : (takeP n st).1.length ≤ n := by
  unfold takeP; split
  · exact Nat.zero_le _
  · rw [List.length_take]; omega
theorem numP_one (st : Stt) : (numP 1 st).1 < 256 := by
  have h := valA_lt (takeP 1 st).1 0
  have h1 := takeP_small 1 st
  have h2 : 256 ^ (takeP 1 st).1.length ≤ 256 ^ 1 := Nat.pow_le_pow_right (by decide) h1
  unfold numP
  simp only [Nat.zero_add, Nat.one_mul] at h
  show valA 0 (takeP 1 st).1 < 256
  omega
theorem txtP_len (st : Stt) : (txtP st).2.1.length ≤ st.1.length := Nat.le_trans (takeP_len _ _) (takeP_len _ _)
theorem txtP_small (st : Stt) : (txtP st).1.length < 256 := Nat.lt_of_le_of_lt (takeP_small _ _) (numP_one st)
theorem labsP_len : ∀ (n : Nat) (st : Stt), (labsP n st).1.length = n
  | 0, _ => rfl
  | n + 1, st => by rw [labsP, List.length_append, labsP_len n]; rfl
theorem labsP_left : ∀ (n : Nat) (st : Stt), (labsP n st).2.1.length ≤ st.1.length
  | 0, _ => Nat.le_refl _
  | n + 1, st => Nat.le_trans (txtP_len _) (Nat.le_trans (txtP_len _) (labsP_left n st))

set_option maxHeartbeats 2000000 in
set_option maxRecDepth 100000 in
theorem text1_any (bd : Nat) (st : Stt) (w : World) (h : Rd w bd st) (hl : st.1.length ≤ maxLen) :
    Calls Try.prog 79 #[.pointer (some ⟨bd, 0, none⟩)] w fun e w' => e = .returned (.string ⟨(txtP st).1.toArray⟩) ∧ Rd w' bd (txtP st).2 ∧ w.grownBy w' (some bd) := by
  have HN := Lib.hid (number_any bd 1 st w h hl (by decide))
  have HT := Lib.hid (fun (W : World) (h1 : Rd W bd (numP 1 st).2) => take_any bd (numP 1 st).1 (numP 1 st).2 W h1 (Nat.le_trans (takeP_len _ _) hl) (by have := numP_one st; omega))
  have HC := Lib.hid (fun (W : World) => clone_any ⟨(txtP st).1.toArray⟩ W (by rw [str_size]; have := txtP_small st; omega))
  clear h hl
  go_enter Try.func79, Try.ntmps79
  go_wp2_with fail
  refine HN.out.mono ?_
  rintro e w1 ⟨rfl, h1, g1⟩
  go_wp2_with fail
  refine (HT.out _ h1).mono ?_
  rintro e w2 ⟨rfl, h2, g2⟩
  have HG2 := Lib.hid (And.intro h2 (grown_trans g1 g2))
  clear h1 h2 g1 g2
  go_wp2_with fail
  refine (HC.out _).mono ?_
  rintro e w3 ⟨rfl, b3⟩
  have HG3 := Lib.hid (And.intro (Rd.below HG2.out.1 b3) (grown_trans HG2.out.2 (grown_of_below b3 _)))
  clear b3
  go_wp2
  go_ret
  exact ⟨rfl, HG3.out.1, HG3.out.2⟩

theorem own_but {w w' : World} {B e size n bd : Nat} {v : Value} {xs : List Value} (h : w.ownsRow B e size v n xs) (hg : w.grownBy w' (some bd)) (hb : bd < B) : w'.ownsRow B e size v n xs :=
  h.kept (row := some bd) hg (.inr fun e => by have := (h.lt _ e).1; omega)

set_option maxHeartbeats 4000000 in
set_option maxRecDepth 100000 in
theorem labels_any (bd : Nat) (st : Stt) (w : World) (h : Rd w bd st) (hl : st.1.length ≤ maxLen) :
    Calls Try.prog 76 #[.pointer (some ⟨bd, 0, none⟩)] w fun e w' => (∃ v, e = .returned v ∧ w'.ownsRow w.heap.size 79 2 v (numP 1 st).1 (flatL (labsP (numP 1 st).1 (numP 1 st).2).1)) ∧ Rd w' bd (labsP (numP 1 st).1 (numP 1 st).2).2 ∧ w.grownBy w' (some bd) := by
  obtain ⟨i0, hi, hz0, hz1, hz2⟩ := info_parts info38
  have hlt := h.lt
  have HN := Lib.hid (number_any bd 1 st w h hl (by decide))
  have hn256 := numP_one st
  have hl2 : (numP 1 st).2.1.length ≤ maxLen := Nat.le_trans (takeP_len _ _) hl
  obtain ⟨n, hn⟩ : ∃ n, (numP 1 st).1 = n := ⟨_, rfl⟩
  obtain ⟨s1, hs1⟩ : ∃ s1, (numP 1 st).2 = s1 := ⟨_, rfl⟩
  rw [hn, hs1] at HN
  rw [hn] at hn256 ⊢
  rw [hs1] at hl2 ⊢
  have HT := Lib.hid (fun (W : World) (s : Stt) (h1 : Rd W bd s) (h2 : s.1.length ≤ s1.1.length) => text1_any bd s W h1 (Nat.le_trans h2 hl2))
  clear h hl hn hs1 hl2
  go_enter Try.func76, Try.ntmps76
  go_wp2_with fail
  refine HN.out.mono ?_
  rintro e w1 ⟨rfl, h1, g1⟩
  have HR1 := Lib.hid h1
  have HG1 := Lib.hid g1
  clear h1 g1
  go_wp2
  go_loopw [3, 4, 5, 8] (fun v3 v4 v5 v8 wr => ∃ k : Nat, v8 = .int .i64 k ∧ k ≤ n ∧ Hid (wr.ownsRow w.heap.size 79 2 v3 (labsP k s1).1.length (flatL (labsP k s1).1)) ∧ Hid (Rd wr bd (labsP k s1).2) ∧ Hid (w.grownBy wr (some bd))) (fun _ _ _ v8 _ => n - (Go.RowKit.intOf v8).toNat)
  case atStart => exact ⟨0, rfl, Nat.zero_le _, World.ownsRow_nil _ _ _ _, HR1, HG1⟩
  case round =>
    obtain ⟨k, rfl, hk, HO, HR, HG⟩ := hrel
    by_cases hkn : k < n
    · have j1 : (k : Int) < n := by omega
      obtain ⟨a, ha⟩ : ∃ a : ByteArray, ⟨(txtP (labsP k s1).2).1.toArray⟩ = a := ⟨_, rfl⟩
      obtain ⟨b, hb⟩ : ∃ b : ByteArray, ⟨(txtP (txtP (labsP k s1).2).2).1.toArray⟩ = b := ⟨_, rfl⟩
      have HT1 := Lib.hid (HT.out wr _ HR.out (labsP_left k s1))
      have HT2 := Lib.hid (fun W (h1 : Rd W bd (txtP (labsP k s1).2).2) => HT.out W _ h1 (Nat.le_trans (txtP_len _) (labsP_left k s1)))
      have HS := Lib.hid (show labsP (k + 1) s1 = ((labsP k s1).1 ++ [(a, b)], (txtP (txtP (labsP k s1).2).2).2) by rw [labsP, ha, hb])
      rw [ha] at HT1
      rw [hb] at HT2
      have hkl := labsP_len k s1
      clear ha hb
      go_wp2_with fail
      refine HT1.out.mono ?_
      rintro e w2 ⟨rfl, h2, g2⟩
      have HO2 := Lib.hid (own_but HO.out g2 hlt)
      have HG2 := Lib.hid (grown_trans HG.out g2)
      have HR2 := Lib.hid h2
      clear h2 g2
      go_wp2_with fail
      refine (HT2.out _ HR2.out).mono ?_
      rintro e w3 ⟨rfl, h3, g3⟩
      have hO3 := own_but HO2.out g3 hlt
      have HG3 := Lib.hid (grown_trans HG2.out g3)
      have HR3 := Lib.hid h3
      have hz3 := HG3.out.size
      clear h3 g3
      go_wp2_with (at_builtin; go_must (refine wpList_append_own _ rfl _ _ 38 rfl w.heap.size 79 i0 (.agg #[.string ⟨#[]⟩, .string ⟨#[]⟩]) 2 32 Try.underlying38 hi hz0 hz1 hz2 rfl (by decide) _ _ _ rfl (hO3.alloc _) ⟨w3.heap.size, 0, none⟩ 1 1 [.string a, .string b] rfl rfl (cells_2 _ _ _ _) (one_2 _ _) (by unfold maxLen; omega) (by omega) (by simp; omega) ?_); intro v' w4 hown' hgrow4 hnil4)
      have hB4 : ∀ i, i < w3.heap.size → i < w.heap.size → w4.heap[i]? = w3.heap[i]? := fun i h1 h2 => by
        rw [hgrow4.block i (by rw [show (w3.alloc (Obj.cells #[Value.string a, Value.string b] 79)).heap.size = w3.heap.size + 1 from Array.size_push _]; omega) (fun e => by have := (hO3.lt _ e.symm).1; omega)]
        exact Below.heap_alloc _ _ _ h1
      have HR4 := Lib.hid (show Rd w4 bd (labsP (k + 1) s1).2 by
        rw [HS.out]
        exact (hB4 bd (by omega) hlt).trans HR3.out)
      have HG4 := Lib.hid (show w.grownBy w4 (some bd) from ⟨hgrow4.os.trans HG3.out.os, hgrow4.tape.trans HG3.out.tape, hgrow4.output.trans HG3.out.output, by
        have := hgrow4.size
        rw [show (w3.alloc (Obj.cells #[Value.string a, Value.string b] 79)).heap.size = w3.heap.size + 1 from Array.size_push _] at this
        omega, fun i hi1 hi2 => (hB4 i (by omega) hi1).trans (HG3.out.block i hi1 hi2)⟩)
      have HO4 := Lib.hid (show w4.ownsRow w.heap.size 79 2 v' (labsP (k + 1) s1).1.length (flatL (labsP (k + 1) s1).1) by
        rw [HS.out]
        simp only [List.length_append, flatL_snoc, List.length_cons, List.length_nil, Nat.zero_add]
        exact hown')
      clear hown' hgrow4 hnil4 hO3 hz3 hB4
      go_roundw
      case rel => exact ⟨k + 1, by go_num, by omega, HO4, HR4, HG4⟩
      case measure => simp [Go.RowKit.intOf]; omega
    · have j1 : (n : Int) ≤ k := by omega
      obtain rfl : k = n := by omega
      have hkl := labsP_len k s1
      go_wp2
      go_ret
      refine ⟨⟨_, rfl, ?_⟩, HR.out, HG.out⟩
      have := HO.out
      rwa [hkl] at this
end Go.Proofs.Ytldlfmeppcdbbaa.Row
