/- A walk: a row's bytes are written. -/
import Derived.Test.YtldlfmeppcdbbaaYa
import Derived.Test.YtldlfmeppcdbbaaGg
import Derived.Test.YtldlfmeppcdbbaaShelf
namespace Go.Proofs.Ytldlfmeppcdbbaa.Row
open Go.RowKit Go.Proofs.Ytldlfmeppcdbbaa.Crc

/-- What is written behind what a builder has. -/
structure Wrote (B b : Nat) (acc : List UInt8) (w w' : World) : Prop where
  has : Lib.IsBuilderF 60 5 B b (Lib.byteCells acc) w'
  below : Below B w w'
  others : Lib.OthersKept 5 (some b) w w'
theorem Wrote.trans {B b : Nat} {l m : List UInt8} {u v w : World} (h : Wrote B b l u v) (k : Wrote B b m v w) : Wrote B b m u w :=
  ⟨k.has, h.below.trans k.below, h.others.trans k.others⟩
theorem Wrote.alloc {B b : Nat} {l : List UInt8} {u v : World} (h : Wrote B b l u v) (hB : B ≤ v.heap.size) (o : Obj) : Wrote B b l u (v.alloc o) :=
  ⟨h.has.alloc o, h.below.alloc hB o, h.others.alloc o⟩
theorem Wrote.lt {B b : Nat} {l : List UInt8} {u v : World} (h : Wrote B b l u v) : b < v.heap.size := h.has.elim (fun h => h.lt) (fun h => h.lt)
theorem byte_any (B b : Nat) (l : List UInt8) (c : UInt8) (w : World) (h : Lib.IsBuilderF 60 5 B b (Lib.byteCells l) w) (hl : l.length ≤ 1000000) (hB : B ≤ w.heap.size) :
    Calls Try.prog 68 #[.pointer (some ⟨b, 0, none⟩), .int .u8 c.toNat] w fun e w' => e = .returned .nilIface ∧ Wrote B b (l ++ [c]) w w' :=
  (Try.Builder_WriteByte_k B b _ c.toNat w h (by rw [Lib.byteCells_length]; omega) hB).mono fun e w' ⟨h1, h2, h3, h4⟩ => ⟨h1, by rw [Lib.byteCells_append]; exact .inr h2, h3, h4⟩
theorem text_any (B b : Nat) (l : List UInt8) (s : ByteArray) (w : World) (h : Lib.IsBuilderF 60 5 B b (Lib.byteCells l) w) (hl : l.length ≤ 1000000) (hs : s.size ≤ 1000000) (hB : B ≤ w.heap.size) :
    Calls Try.prog 26 #[.pointer (some ⟨b, 0, none⟩), .string s] w fun e w' => e = .returned (.tuple #[.int .i64 s.size, .nilIface]) ∧ Wrote B b (l ++ s.data.toList) w w' :=
  (Try.Builder_WriteString_k B b _ s w h (by rw [Lib.byteCells_length]; omega) hB).mono fun e w' ⟨h1, h2, h3, h4⟩ => ⟨h1, by rw [Lib.byteCells_append, ← str_cells]; exact .inr h2, h3, h4⟩

theorem byte_eq (v k : Nat) : ((v : Int) / 2 ^ (8 * k) % 256) = ((UInt8.ofNat (v / 256 ^ k)).toNat : Int) := by
  rw [u8, show (256 : Nat) ^ k = 2 ^ (8 * k) by rw [Nat.pow_mul], Int.natCast_emod, Int.natCast_ediv, Int.natCast_pow]
  rfl
set_option maxHeartbeats 4000000 in
set_option maxRecDepth 100000 in
theorem num_any (B b : Nat) (l : List UInt8) (v n : Nat) (w : World) (h : Lib.IsBuilderF 60 5 B b (Lib.byteCells l) w) (hl : l.length ≤ 100000) (hn : n ≤ 7) (hB : B ≤ w.heap.size) :
    Calls Try.prog 57 #[.pointer (some ⟨b, 0, none⟩), .int .i64 v, .int .i64 n] w fun e w' => e = .returned (.tuple #[]) ∧ Wrote B b (l ++ numB n v) w w' := by
  have H0 := Lib.hid (show Wrote B b l w w from ⟨h, Below.refl _ _, Lib.OthersKept.refl _ _ _⟩)
  have HB := Lib.hid hB
  clear h hB
  go_enter Try.func57, Try.ntmps57
  go_wp2
  go_loopw [6] (fun v6 wr => ∃ (j : Nat) (acc : List UInt8), v6 = .int .i64 ((j : Int) - 1) ∧ j ≤ n ∧ Hid (Wrote B b acc w wr) ∧ Hid (acc ++ numB j v = l ++ numB n v) ∧ acc.length ≤ 100000 + (n - j)) (fun v6 _ => (Go.RowKit.intOf v6 + 1).toNat)
  case atStart => exact ⟨n, l, by go_num, Nat.le_refl _, H0, rfl, by omega⟩
  case round =>
    obtain ⟨j, acc, rfl, hj, HW, H, hal⟩ := hrel
    cases j with
    | zero =>
      have e1 : ((0 : Nat) : Int) - 1 = -1 := rfl
      rw [e1]
      have H2 := Lib.hid (show acc = l ++ numB n v by rw [← H.out, numB, List.append_nil])
      go_wp2
      go_end0
      exact ⟨rfl, by rw [← H2.out]; exact HW.out⟩
    | succ k =>
      have e1 : ((k + 1 : Nat) : Int) - 1 = k := by omega
      rw [e1]
      have j1 : (0 : Int) ≤ k := by omega
      go_wp2_with fail
      rw [byte_eq]
      refine (byte_any B b acc (UInt8.ofNat (v / 256 ^ k)) _ HW.out.has (by omega) (Nat.le_trans HB.out HW.out.below.size)).mono ?_
      rintro e w1 ⟨rfl, h1⟩
      have HW1 := Lib.hid (HW.out.trans h1)
      have H1 := Lib.hid (show (acc ++ [UInt8.ofNat (v / 256 ^ k)]) ++ numB k v = l ++ numB n v by rw [← H.out, numB, List.append_assoc]; rfl)
      have hl1 : (acc ++ [UInt8.ofNat (v / 256 ^ k)]).length = acc.length + 1 := by simp
      clear h1
      go_wp2
      go_roundw
      case rel => exact ⟨k, _, by go_num, by omega, HW1, H1, by omega⟩
      case measure => simp [Go.RowKit.intOf]

set_option maxHeartbeats 4000000 in
set_option maxRecDepth 100000 in
theorem put_any (B b : Nat) (l : List UInt8) (s : ByteArray) (w : World) (h : Lib.IsBuilderF 60 5 B b (Lib.byteCells l) w) (hl : l.length ≤ 90000) (hs : s.size ≤ 1000) (hB : B ≤ w.heap.size) :
    Calls Try.prog 58 #[.pointer (some ⟨b, 0, none⟩), .string s] w fun e w' => e = .returned (.tuple #[]) ∧ Wrote B b (l ++ putT s.data.toList) w w' := by
  have HN := Lib.hid (num_any B b l s.size 1 w h (by omega) (by decide) hB)
  have HB := Lib.hid hB
  clear h hB
  go_enter Try.func58, Try.ntmps58
  go_wp2_with fail
  refine HN.out.mono ?_
  rintro e w1 ⟨rfl, h1⟩
  have HW1 := Lib.hid h1
  clear h1
  go_wp2_with fail
  refine (text_any B b _ s _ HW1.out.has (by rw [List.length_append, numB_len]; omega) (by omega) (Nat.le_trans HB.out HW1.out.below.size)).mono ?_
  rintro e w2 ⟨rfl, h2⟩
  have HW2 := Lib.hid (HW1.out.trans h2)
  clear h2
  go_wp2
  go_end0
  refine ⟨rfl, ?_⟩
  have := HW2.out
  rwa [List.append_assoc, Lib.size_eq] at this

def okR (xs : List Lab) (v : Int) : Bool := rightB xs && Fix.rgtB v
def putS (xs : List Lab) (v : Int) : ByteArray := if okR xs v then ⟨(putR xs v).toArray⟩ else ⟨#[]⟩
def putE (xs : List Lab) (v : Int) : Int := if okR xs v then 0 else 1
theorem box_two {W : World} {k : Nat} {a b : Value} {t : TypeId} {f : Nat × Nat} (h : W.heap[k]? = some (.cells #[a, b] t f)) : W.cell? ⟨k, 0, none⟩ = some a ∧ W.cell? ⟨k, 1, none⟩ = some b := by
  constructor <;> simp [World.cell?, h]
theorem box_row (w : World) (a b : Value) (t : TypeId) : (w.alloc (Obj.cells #[a, b] t)).heap[w.heap.size]? = some (.cells #[a, b] t (0, 0)) := Array.getElem?_push_size

set_option maxHeartbeats 8000000 in
set_option maxRecDepth 100000 in
theorem rput_any (o : Option Addr) (n c : Nat) (xs : List Lab) (v : Int) (w : World) (hn : xs.length = n) (hm : n ≤ maxLen) (hS : SeesO w o xs) :
    Calls Try.prog 47 #[.agg #[.slice o n c, .int .i64 v]] w fun e w' => e = .returned (.tuple #[.string (putS xs v), .int .i64 (putE xs v)]) ∧ Below w.heap.size w w' := by
  have HR := Lib.hid (fun (W : World) (hb : Below w.heap.size w W) => (show Calls Try.prog 55 #[.slice o n c] W fun e w' => e = .returned (.bool (rightB xs)) ∧ Below W.heap.size W w' from by
    have := right_any o c xs W (by omega) (hS.below hb)
    rwa [hn] at this))
  have HS := Lib.hid hS
  have HN := Lib.hid hn
  have HF := Lib.hid (fun (W : World) => Fix.right_any v W)
  have hbx := box_row w (.slice o n c) (.int .i64 v) 40
  have HB0 := Lib.hid (show Below w.heap.size w (w.alloc (Obj.cells #[Value.slice o n c, Value.int .i64 v] 40)) from (Below.refl _ _).alloc (Nat.le_refl _) _)
  have hz0 : (w.alloc (Obj.cells #[Value.slice o n c, Value.int .i64 v] 40)).heap.size = w.heap.size + 1 := Array.size_push _
  obtain ⟨W0, hW0⟩ : ∃ W0, w.alloc (Obj.cells #[Value.slice o n c, Value.int .i64 v] 40) = W0 := ⟨_, rfl⟩
  rw [hW0] at hbx HB0 hz0
  have HW0 := Lib.hid hW0
  have HE := Lib.hid hbx
  clear hS hn hW0
  obtain ⟨c0, c1⟩ := box_two hbx
  clear hbx
  cases hr : rightB xs with
  | false =>
    rw [hr] at HR
    have H2 := Lib.hid (show putS xs v = ⟨#[]⟩ ∧ putE xs v = 1 by unfold putS putE okR; rw [hr]; exact ⟨rfl, rfl⟩)
    clear hr
    go_enter Try.func47, Try.ntmps47
    go_wp2_with fail
    rw [HW0.out]
    refine (HR.out _ HB0.out).mono ?_
    rintro e w1 ⟨rfl, b1⟩
    have HB1 := Lib.hid (HB0.out.trans (b1.mono HB0.out.size))
    clear b1
    go_wp2
    exact bodyPost_ret (v := .tuple #[.string ⟨#[]⟩, .int .i64 1]) (by simp [results, Try.results47, go_sem]) rfl ⟨by rw [H2.out.1, H2.out.2], HB1.out⟩
  | true =>
    cases hv : Fix.rgtB v with
    | false =>
      rw [hr] at HR
      rw [hv] at HF
      have H2 := Lib.hid (show putS xs v = ⟨#[]⟩ ∧ putE xs v = 1 by unfold putS putE okR; rw [hr, hv]; exact ⟨rfl, rfl⟩)
      clear hr hv
      go_enter Try.func47, Try.ntmps47
      go_wp2_with fail
      rw [HW0.out]
      refine (HR.out _ HB0.out).mono ?_
      rintro e w1 ⟨rfl, b1⟩
      have HB1 := Lib.hid (HB0.out.trans (b1.mono HB0.out.size))
      obtain ⟨d0, d1⟩ := box_two ((b1.block _ (by omega)).trans HE.out)
      clear b1
      go_wp2_with fail
      refine (HF.out _).mono ?_
      rintro e w2 ⟨rfl, rfl⟩
      go_wp2
      exact bodyPost_ret (v := .tuple #[.string ⟨#[]⟩, .int .i64 1]) (by simp [results, Try.results47, go_sem]) rfl ⟨by rw [H2.out.1, H2.out.2], HB1.out⟩
    | true =>
      rw [hr] at HR
      rw [hv] at HF
      have H2 := Lib.hid (show putS xs v = ⟨(putR xs v).toArray⟩ ∧ putE xs v = 0 by unfold putS putE okR; rw [hr, hv]; exact ⟨rfl, rfl⟩)
      have hsm := right_small hr
      have hn8 : n ≤ 8 := by rw [← HN.out]; exact right_len hr
      have hvv : -1000000000000 ≤ v ∧ v ≤ 1000000000000 := by unfold Fix.rgtB at hv; exact of_decide_eq_true hv
      have HSM := Lib.hid hsm
      clear hr hv hsm
      go_enter Try.func47, Try.ntmps47
      go_wp2_with fail
      rw [HW0.out]
      refine (HR.out _ HB0.out).mono ?_
      rintro e w1 ⟨rfl, b1⟩
      have HB1 := Lib.hid (HB0.out.trans (b1.mono HB0.out.size))
      have HE1 := Lib.hid ((b1.block _ (by omega)).trans HE.out)
      have hz1 : w.heap.size + 1 ≤ w1.heap.size := by have := b1.size; omega
      obtain ⟨d0, d1⟩ := box_two HE1.out
      clear b1 c0 c1
      go_wp2_with fail
      refine (HF.out _).mono ?_
      rintro e w2 ⟨rfl, rfl⟩
      have hI0 := Lib.hid (Lib.IsBuilderF.of (Lib.fresh_isBuilder 60 5 w1))
      have HA := Lib.hid ((Below.refl w1.heap.size w1).alloc (Nat.le_refl _) (Obj.cells #[Value.pointer none, Value.slice none 0 0] 60))
      have HEA := Lib.hid ((HA.out.block _ (by omega)).trans HE1.out)
      obtain ⟨f0, f1⟩ := box_two HEA.out
      clear d0 d1
      go_wp2_with fail
      refine (num_any w1.heap.size w1.heap.size [] n 1 _ hI0.out (by simp) (by decide) HA.out.size).mono ?_
      rintro e w2 ⟨rfl, h2⟩
      have HW2 := Lib.hid h2
      have HE2 := Lib.hid ((h2.below.block _ (by omega)).trans HEA.out)
      have HB2 := Lib.hid (HB1.out.trans ((HA.out.trans h2.below).mono HB1.out.size))
      obtain ⟨g0, g1⟩ := box_two HE2.out
      clear h2 f0 f1 hI0
      go_wp2
      go_loopw [6, 24] (fun v6 v24 wr => ∃ (k : Nat) (acc : List UInt8), v24 = .int .i64 k ∧ k ≤ n ∧ Hid (Wrote w1.heap.size w1.heap.size acc w2 wr) ∧ Hid (Below w.heap.size w wr) ∧ Hid (acc ++ putL (xs.drop k) = numB 1 n ++ putL xs) ∧ acc.length ≤ 1 + 512 * k) (fun _ v24 _ => n - (Go.RowKit.intOf v24).toNat)
      case atStart => exact ⟨0, _, rfl, Nat.zero_le _, ⟨HW2.out.has, Below.refl _ _, Lib.OthersKept.refl _ _ _⟩, HB2, rfl, by simp [numB_len]⟩
      case round =>
        obtain ⟨k, acc, rfl, hk, HW, HB, H, hal⟩ := hrel
        have hzw := HW.out.below.size
        have hz2 := HW2.out.below.size
        have hza := HA.out.size
        have hlt := HW.out.lt
        by_cases hkn : k < n
        · have j1 : (k : Int) < n := by omega
          obtain ⟨x, hx⟩ := get_lt HN.out hkn
          obtain ⟨b, off, rfl, hS⟩ := (HS.out.below HB.out).at hx
          have c0 := hS.at0 k x hx
          have c1 := hS.at1 k x hx
          have hsz := HSM.out x (List.mem_of_getElem? hx)
          have s1 : x.1.size < 256 := by rw [Lib.size_eq]; exact hsz.1
          have s2 : x.2.size < 256 := by rw [Lib.size_eq]; exact hsz.2
          have hbx := box_cells wr x
          have HA2 := Lib.hid (HW.out.alloc (by omega) (Obj.cells #[Value.string x.1, Value.string x.2] 79))
          have HB3 := Lib.hid (HB.out.alloc (Nat.le_trans HB1.out.size (by omega)) (Obj.cells #[Value.string x.1, Value.string x.2] 79))
          have hz3 : wr.heap.size ≤ (wr.alloc (Obj.cells #[Value.string x.1, Value.string x.2] 79)).heap.size := by rw [show (wr.alloc (Obj.cells #[Value.string x.1, Value.string x.2] 79)).heap.size = wr.heap.size + 1 from Array.size_push _]; omega
          have H3 := Lib.hid (show ((acc ++ putT x.1.data.toList) ++ putT x.2.data.toList) ++ putL (xs.drop (k + 1)) = numB 1 n ++ putL xs by
            rw [← H.out, drop_at hx, putL]; simp only [List.append_assoc])
          have hl1 : (acc ++ putT x.1.data.toList).length ≤ acc.length + 256 := by
            simp only [List.length_append, putT, numB_len]; omega
          have hl2 : ((acc ++ putT x.1.data.toList) ++ putT x.2.data.toList).length ≤ acc.length + 512 := by
            simp only [List.length_append, putT, numB_len] at hl1 ⊢; omega
          clear hS hx hsz
          go_wp2_with fail
          refine (put_any w1.heap.size w1.heap.size acc x.1 _ HA2.out.has (by omega) (by omega) (by omega)).mono ?_
          rintro e w3 ⟨rfl, h3⟩
          have hk3 := kept_cells h3.others hbx (by omega)
          have HW3 := Lib.hid (HA2.out.trans h3)
          have HB4 := Lib.hid (HB3.out.trans (h3.below.mono HB1.out.size))
          have hz4 := h3.below.size
          obtain ⟨d0, d1⟩ := cells_read hk3
          clear h3 hbx c0 c1
          go_wp2_with fail
          refine (put_any w1.heap.size w1.heap.size _ x.2 _ HW3.out.has (by omega) (by omega) (by omega)).mono ?_
          rintro e w4 ⟨rfl, h4⟩
          have HW4 := Lib.hid (HW3.out.trans h4)
          have HB5 := Lib.hid (HB4.out.trans (h4.below.mono HB1.out.size))
          clear h4 d0 d1 hk3
          go_wp2
          go_roundw
          case rel => exact ⟨k + 1, _, by go_num, by omega, HW4, HB5, H3, by omega⟩
          case measure => simp [Go.RowKit.intOf]; omega
        · have j1 : (n : Int) ≤ k := by omega
          have HE3 := Lib.hid ((HW.out.below.block _ (by omega)).trans HE2.out)
          obtain ⟨d0, d1⟩ := box_two HE3.out
          obtain ⟨u, hu⟩ : ∃ u : Nat, v + 1000000000000 = u := ⟨(v + 1000000000000).toNat, by omega⟩
          have H3 := Lib.hid (show acc ++ numB 6 u = putR xs v by
            have e1 : xs.drop k = [] := List.drop_eq_nil_of_le (by rw [HN.out]; omega)
            have h0 := H.out
            rw [e1, putL, List.append_nil] at h0
            rw [putR, HN.out, h0, hu, List.append_assoc]; rfl)
          have hl1 : (acc ++ numB 6 u).length = acc.length + 6 := by rw [List.length_append, numB_len]
          go_wp2_with fail
          refine (num_any w1.heap.size w1.heap.size acc u 6 _ HW.out.has (by omega) (by decide) (by omega)).mono ?_
          rintro e w3 ⟨rfl, h3⟩
          have HB4 := Lib.hid (HB.out.trans (h3.below.mono HB1.out.size))
          have hz4 := h3.below.size
          have HW3 := Lib.hid h3
          clear h3 d0 d1
          go_wp2_with fail
          refine (Try.Builder_String_any_k w1.heap.size w1.heap.size _ _ HW3.out.has (by omega)).mono ?_
          rintro e w4 ⟨rfl, _, b4, _⟩
          have HB5 := Lib.hid (HB4.out.trans (b4.mono HB1.out.size))
          clear b4
          go_wp2
          exact bodyPost_ret (v := .tuple #[.string ⟨(acc ++ numB 6 u).toArray⟩, .int .i64 0]) (by simp [results, Try.results47, go_sem]) rfl ⟨by rw [H2.out.1, H2.out.2, H3.out], HB5.out⟩
end Go.Proofs.Ytldlfmeppcdbbaa.Row
