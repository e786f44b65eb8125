/- Labels: their text. -/
import Derived.Test.YtiopnccmhocaaaaGreatLh
import Derived.Lib.BufferKept
namespace Go.Proofs.YtiopnccmhocaaaaGreat
open Go.RowKit

def pairT (x : Lab) : List UInt8 := x.1.data.toList ++ (61 :: quoteL x.2.data.toList)
def tailT : List Lab → List UInt8
  | [] => [125]
  | x :: xs => 44 :: (pairT x ++ tailT xs)
def headT : List Lab → List UInt8
  | [] => [125]
  | x :: xs => pairT x ++ tailT xs
def textT (xs : List Lab) : List UInt8 := 123 :: headT xs
theorem quoteL_len (l : List UInt8) : (quoteL l).length ≤ 5 * l.length + 2 := by
  have h : ∀ ts : List (List UInt8), (ts.flatMap chunkQ).length ≤ 5 * ts.length := by
    intro ts
    induction ts with
    | nil => simp
    | cons t ts ih => rw [List.flatMap_cons, List.length_append, List.length_cons]; have := chunkQ_len t; omega
  have h2 := h (sufs l)
  have h3 := sufs_len l
  unfold quoteL bodyQ
  simp only [List.length_cons, List.length_append, List.length_nil]
  omega
theorem str_cells (s : ByteArray) : Lib.strCells s = Lib.byteCells s.data.toList := rfl
theorem text_cells (acc : List UInt8) (x : Lab) : Lib.byteCells acc ++ Lib.strCells x.1 ++ [.int .u8 61] ++ Lib.strCells ⟨(quoteL x.2.data.toList).toArray⟩ = Lib.byteCells (acc ++ pairT x) := by
  unfold pairT
  rw [str_cells, str_cells, Lib.byteCells_append, Lib.byteCells_append, List.append_assoc, List.append_assoc]
  rfl
theorem below_builder {T e : TypeId} {B b : Nat} {bs : List Value} {W W' : World} (h : Lib.IsBuilderF T e B b bs W) (hb : Below W.heap.size W W') : Lib.IsBuilderF T e B b bs W' := by
  have key : ∀ p, Lib.BuilderAtF T e B b p bs W → Lib.BuilderAtF T e B b p bs W' := by
    intro p h
    have hlt := h.lt
    obtain ⟨hB, v, hv, hown, hne⟩ := h
    exact ⟨hB, v, (hb.block b hlt).trans hv, hown.kept (row := none) ⟨hb.os, hb.tape, hb.output, hb.size, fun k hk _ => hb.block k hk⟩ (Classical.em _), hne⟩
  exact h.elim (fun x => .inl (key _ x)) (fun x => .inr (key _ x))
theorem kept_cells {b : Nat} {w w' : World} (h : Lib.OthersKept 5 (some b) w w') {k : Nat} {cs : Array Value} (hk : w.heap[k]? = some (.cells cs 56 (0, 0))) (hkb : k ≠ b) : w'.heap[k]? = some (.cells cs 56 (0, 0)) :=
  h k _ hk (fun e => hkb (Option.some.inj e)) (fun c fz e => by cases e)
theorem cells_read {w : World} {k : Nat} {x : Lab} (h : w.heap[k]? = some (.cells #[.string x.1, .string x.2] 56 (0, 0))) : w.cell? ⟨k, 0, none⟩ = some (.string x.1) ∧ w.cell? ⟨k, 1, none⟩ = some (.string x.2) := by
  constructor <;> simp [World.cell?, h]

set_option maxHeartbeats 4000000 in
set_option maxRecDepth 100000 in
theorem text_any (o : Option Addr) (cap : Nat) (xs : List Lab) (w : World) (hm : xs.length ≤ 1000000) (hS : SeesO w o xs) (hv : ∀ x ∈ xs, x.1.size ≤ 1000 ∧ x.2.size ≤ 1000) :
    Calls Tryz.prog 22 #[.slice o xs.length cap] w fun e w' => e = .returned (.string ⟨(textT xs).toArray⟩) ∧ Below w.heap.size w w' := by
  obtain ⟨n, hn⟩ : ∃ n, xs.length = n := ⟨_, rfl⟩
  have HN := Lib.hid hn
  rw [hn] at hm ⊢
  clear hn
  have HSO := Lib.hid hS
  have HV := Lib.hid hv
  have HQ := Lib.hid (fun (s : ByteArray) W (h : s.size ≤ 1099511627776) => quote_any s W h)
  clear hS hv
  go_enter Tryz.func22, Tryz.ntmps22
  have hI0 := Lib.IsBuilderF.of (Lib.fresh_isBuilder 70 5 w)
  go_wp2_with (go_at_call 44; refine (Tryz.Builder_WriteByte_k w.heap.size w.heap.size [] 123 _ hI0 (by simp) (by simp)).mono ?_)
  rintro e W0 ⟨rfl, h0, b0, k0⟩
  have hb0 : Below w.heap.size w W0 := ((Below.refl _ w).alloc (Nat.le_refl _) _).trans b0
  have hI1 : Lib.IsBuilderF 70 5 w.heap.size w.heap.size (Lib.byteCells [123]) W0 := .inr h0
  clear h0 hI0 k0 b0
  go_wp2
  go_loopw [4, 5, 9] (fun v4 v5 v9 wr => ∃ (k : Nat) (acc : List UInt8), v9 = .int .i64 k ∧ k ≤ n ∧ Lib.IsBuilderF 70 5 w.heap.size w.heap.size (Lib.byteCells acc) wr ∧ Hid (Below w.heap.size w wr) ∧ Hid (acc ++ (if k = 0 then headT xs else tailT (xs.drop k)) = textT xs) ∧ acc.length ≤ 10000 * k + 1) (fun _ _ v9 _ => n - (intOf v9).toNat)
  case atStart => exact ⟨0, [123], rfl, Nat.zero_le _, hI1, hb0, rfl, by simp⟩
  case round =>
    obtain ⟨k, acc, rfl, hk, hI, HB, H, hal⟩ := hrel
    have hzw := HB.out.size
    by_cases hkn : k < n
    · have j1 : (k : Int) < n := by omega
      obtain ⟨x, hx⟩ := get_lt HN.out hkn
      obtain ⟨b, off, rfl, hS⟩ := (HSO.out.below (HB.out.mono (Nat.le_refl _))).at hx
      have c0 := hS.at0 k x hx
      have c1 := hS.at1 k x hx
      have hsz := HV.out x (List.mem_of_getElem? hx)
      have hbx := box_cells wr x
      have HB1 := Lib.hid (show Below w.heap.size w (wr.alloc (Obj.cells #[Value.string x.1, Value.string x.2] 56)) from HB.out.alloc (by omega) _)
      have hI2 := hI.alloc (Obj.cells #[Value.string x.1, Value.string x.2] 56)
      have hlt : w.heap.size < wr.heap.size := hI.elim (fun h => h.lt) (fun h => h.lt)
      have hdr := drop_at hx
      have hmid : ∃ (W1 : World) (acc2 : List UInt8), W1 = W1 ∧ acc2 = acc2 := ⟨wr, acc, rfl, rfl⟩
      clear hmid
      by_cases hk0 : k = 0
      · have t1 : decide ((0 : Int) < k) = false := by simp; omega
        have j2 : (k : Int) ≤ 0 := by omega
        have H3 : Hid (acc ++ (pairT x ++ tailT (xs.drop (k + 1))) = textT xs) := by
          show _ = _
          have h0 := H.out
          have e1 : xs = x :: xs.drop (k + 1) := by rw [← hdr, hk0]; rfl
          rw [if_pos hk0] at h0
          rw [← h0]
          conv => rhs; rw [e1]
          rfl
        have hal3 : acc.length ≤ 10000 * k + 2 := by omega
        clear hS hx hdr H hk0 hI
        obtain ⟨W1, hW1⟩ : ∃ W1, wr.alloc (Obj.cells #[Value.string x.1, Value.string x.2] 56) = W1 := ⟨_, rfl⟩
        have HW := Lib.hid hW1
        rw [hW1] at hbx HB1 hI2
        clear hW1
        have hc1 := hbx
        have HB3 := HB1
        have hI3 := hI2
        obtain ⟨acc2, hacc2⟩ : ∃ a, acc = a := ⟨_, rfl⟩
        rw [hacc2] at H3 hal3 hI3
        clear hI2 hbx HB1 hacc2 hal
        obtain ⟨d0, d1⟩ := cells_read hc1
        have hz3 := HB3.out.size
        go_wp2_with fail
        rw [HW.out]
        refine (Tryz.Builder_WriteString_k w.heap.size w.heap.size _ x.1 _ hI3 (by rw [Lib.byteCells_length]; omega) hz3).mono ?_
        rintro e W2 ⟨rfl, h2, b2, k2⟩
        have hc2 := kept_cells k2 hc1 (by omega)
        have HB4 := Lib.hid (HB3.out.trans b2)
        have hz4 := HB4.out.size
        clear d0 d1 hc1 HB3 b2 k2 hI3 hz3
        obtain ⟨d0, d1⟩ := cells_read hc2
        go_wp2_with fail
        refine (Tryz.Builder_WriteByte_k w.heap.size w.heap.size _ 61 _ (.inr h2) (by rw [List.length_append, Lib.byteCells_length, Lib.strCells_length]; omega) hz4).mono ?_
        rintro e W3 ⟨rfl, h3, b3, k3⟩
        have hc3 := kept_cells k3 hc2 (by omega)
        have HB5 := Lib.hid (HB4.out.trans b3)
        have hz5 := Lib.hid HB5.out.size
        clear d0 d1 hc2 HB4 b3 k3 h2 hz4
        obtain ⟨d0, d1⟩ := cells_read hc3
        go_wp2_with fail
        refine (HQ.out x.2 _ (by omega)).mono ?_
        rintro e W4 ⟨rfl, b4⟩
        have HB6 := Lib.hid (HB5.out.trans (b4.mono hz5.out))
        have hI4 := below_builder (.inr h3) b4
        have hz6 := HB6.out.size
        have hql := quoteL_len x.2.data.toList
        have hqs : (⟨(quoteL x.2.data.toList).toArray⟩ : ByteArray).size = (quoteL x.2.data.toList).length := by simp [ByteArray.size]
        have hx2 : x.2.data.toList.length = x.2.size := (Lib.size_eq _).symm
        clear d0 d1 b4 HB5 hz5 h3
        go_wp2_with fail
        refine (Tryz.Builder_WriteString_k w.heap.size w.heap.size _ _ _ hI4 (by rw [List.length_append, List.length_append, Lib.byteCells_length, Lib.strCells_length, hqs]; show _ + _ + 1 + _ ≤ _; omega) hz6).mono ?_
        rintro e W5 ⟨rfl, h5, b5, k5⟩
        have hI5 : Lib.IsBuilderF 70 5 w.heap.size w.heap.size (Lib.byteCells (acc2 ++ pairT x)) W5 := by rw [← text_cells]; exact .inr h5
        have HB7 := Lib.hid (HB6.out.trans b5)
        have hal5 : (acc2 ++ pairT x).length ≤ 10000 * (k + 1) + 1 := by
          unfold pairT
          rw [List.length_append, List.length_append, List.length_cons]
          have hx1 : x.1.data.toList.length = x.1.size := (Lib.size_eq _).symm
          omega
        have H5 : Hid ((acc2 ++ pairT x) ++ (if k + 1 = 0 then headT xs else tailT (xs.drop (k + 1))) = textT xs) := by
          show _ = _
          rw [if_neg (by omega), List.append_assoc]; exact H3.out
        clear h5 b5 k5 HB6 hI4 hz6 hql hqs hx2 hc3 H3
        go_wp2
        go_roundw
        case rel => exact ⟨k + 1, acc2 ++ pairT x, by go_num, by omega, hI5, HB7, H5, hal5⟩
        case measure => simp [intOf]; omega
      · have t1 : decide ((0 : Int) < k) = true := by simp; omega
        have j2 : (0 : Int) < k := by omega
        have H3 : Hid ((acc ++ [44]) ++ (pairT x ++ tailT (xs.drop (k + 1))) = textT xs) := by
          show _ = _
          have h0 := H.out
          rw [if_neg hk0, hdr, tailT] at h0
          rw [← h0]; simp
        have hal3 : (acc ++ [44]).length ≤ 10000 * k + 2 := by rw [List.length_append]; simp; omega
        clear hS hx hdr H hk0 hI
        have hz1 := HB1.out.size
        go_wp2_with fail
        refine (Tryz.Builder_WriteByte_k w.heap.size w.heap.size _ 44 _ hI2 (by rw [Lib.byteCells_length]; omega) hz1).mono ?_
        rintro e W1 ⟨rfl, h1, b1, k1⟩
        have hI3 : Lib.IsBuilderF 70 5 w.heap.size w.heap.size (Lib.byteCells (acc ++ [44])) W1 := by rw [Lib.byteCells_append]; exact .inr h1
        have hc1 := kept_cells k1 hbx (by omega)
        have HB3 := Lib.hid (HB1.out.trans b1)
        obtain ⟨acc2, hacc2⟩ : ∃ a, acc ++ [44] = a := ⟨_, rfl⟩
        rw [hacc2] at H3 hal3 hI3
        clear h1 b1 k1 hI2 hbx HB1 hacc2 hz1 hal
        obtain ⟨d0, d1⟩ := cells_read hc1
        have hz3 := HB3.out.size
        go_wp2_with fail
        refine (Tryz.Builder_WriteString_k w.heap.size w.heap.size _ x.1 _ hI3 (by rw [Lib.byteCells_length]; omega) hz3).mono ?_
        rintro e W2 ⟨rfl, h2, b2, k2⟩
        have hc2 := kept_cells k2 hc1 (by omega)
        have HB4 := Lib.hid (HB3.out.trans b2)
        have hz4 := HB4.out.size
        clear d0 d1 hc1 HB3 b2 k2 hI3 hz3
        obtain ⟨d0, d1⟩ := cells_read hc2
        go_wp2_with fail
        refine (Tryz.Builder_WriteByte_k w.heap.size w.heap.size _ 61 _ (.inr h2) (by rw [List.length_append, Lib.byteCells_length, Lib.strCells_length]; omega) hz4).mono ?_
        rintro e W3 ⟨rfl, h3, b3, k3⟩
        have hc3 := kept_cells k3 hc2 (by omega)
        have HB5 := Lib.hid (HB4.out.trans b3)
        have hz5 := Lib.hid HB5.out.size
        clear d0 d1 hc2 HB4 b3 k3 h2 hz4
        obtain ⟨d0, d1⟩ := cells_read hc3
        go_wp2_with fail
        refine (HQ.out x.2 _ (by omega)).mono ?_
        rintro e W4 ⟨rfl, b4⟩
        have HB6 := Lib.hid (HB5.out.trans (b4.mono hz5.out))
        have hI4 := below_builder (.inr h3) b4
        have hz6 := HB6.out.size
        have hql := quoteL_len x.2.data.toList
        have hqs : (⟨(quoteL x.2.data.toList).toArray⟩ : ByteArray).size = (quoteL x.2.data.toList).length := by simp [ByteArray.size]
        have hx2 : x.2.data.toList.length = x.2.size := (Lib.size_eq _).symm
        clear d0 d1 b4 HB5 hz5 h3
        go_wp2_with fail
        refine (Tryz.Builder_WriteString_k w.heap.size w.heap.size _ _ _ hI4 (by rw [List.length_append, List.length_append, Lib.byteCells_length, Lib.strCells_length, hqs]; show _ + _ + 1 + _ ≤ _; omega) hz6).mono ?_
        rintro e W5 ⟨rfl, h5, b5, k5⟩
        have hI5 : Lib.IsBuilderF 70 5 w.heap.size w.heap.size (Lib.byteCells (acc2 ++ pairT x)) W5 := by rw [← text_cells]; exact .inr h5
        have HB7 := Lib.hid (HB6.out.trans b5)
        have hal5 : (acc2 ++ pairT x).length ≤ 10000 * (k + 1) + 1 := by
          unfold pairT
          rw [List.length_append, List.length_append, List.length_cons]
          have hx1 : x.1.data.toList.length = x.1.size := (Lib.size_eq _).symm
          omega
        have H5 : Hid ((acc2 ++ pairT x) ++ (if k + 1 = 0 then headT xs else tailT (xs.drop (k + 1))) = textT xs) := by
          show _ = _
          rw [if_neg (by omega), List.append_assoc]; exact H3.out
        clear h5 b5 k5 HB6 hI4 hz6 hql hqs hx2 hc3 H3
        go_wp2
        go_roundw
        case rel => exact ⟨k + 1, acc2 ++ pairT x, by go_num, by omega, hI5, HB7, H5, hal5⟩
        case measure => simp [intOf]; omega
    · have j1 : (n : Int) ≤ k := by omega
      have H2 : Hid (acc ++ [125] = textT xs) := by
        show _ = _
        rw [← H.out]
        have e1 : xs.drop k = [] := List.drop_eq_nil_of_le (by rw [HN.out]; omega)
        by_cases h0 : k = 0
        · rw [if_pos h0]
          rw [h0, List.drop_zero] at e1
          rw [e1]; rfl
        · rw [if_neg h0, e1]; rfl
      clear H
      go_wp2_with (go_at_call 44; refine (Tryz.Builder_WriteByte_k w.heap.size w.heap.size _ 125 _ hI (by rw [Lib.byteCells_length]; omega) (by omega)).mono ?_)
      rintro e W1 ⟨rfl, h1, b1, k1⟩
      have h1' : Lib.IsBuilderF 70 5 w.heap.size w.heap.size (Lib.byteCells (acc ++ [125])) W1 := by rw [Lib.byteCells_append]; exact .inr h1
      go_wp2_with (go_at_call 47; refine (Tryz.Builder_String_any_k w.heap.size w.heap.size (acc ++ [125]) _ h1' (by have := b1.size; omega)).mono ?_)
      rintro e W2 ⟨rfl, _, b2, _⟩
      go_wp2
      go_ret
      exact ⟨ret_str H2.out, (HB.out.trans b1).trans b2⟩
end Go.Proofs.YtiopnccmhocaaaaGreat
