/- Walks (lex): a token as it stands in a text; tokens joined. -/
import Derived.Test.YtphkodkenkiecaaDoorJl
import Derived.Lib.BufferKept
namespace Go.Proofs.YtphkodkenkiecaaDoor
open Go.RowKit

theorem quote_short (l : List UInt8) : (quoteL l).length ≤ 5 * l.length + 2 := by
  have h : ∀ ts : List (List UInt8), (ts.flatMap chunkQ).length ≤ 5 * ts.length := by
    intro ts
    induction ts with
    | nil => simp
    | cons t ts ih => rw [List.flatMap_cons, List.length_append, List.length_cons]; have := chunkQ_len t; omega
  have h2 := h (sufs l)
  have h3 := sufs_len l
  unfold quoteL bodyQ
  simp only [List.length_cons, List.length_append, List.length_nil]
  omega
theorem spellW_len (w : Nat × List UInt8) : (spellW w).length ≤ 5 * w.2.length + 2 := by
  have := quote_short w.2
  unfold spellW
  split
  · exact this
  · split
    · simp; omega
    · omega
theorem size_arr (l : List UInt8) : (⟨l.toArray⟩ : ByteArray).size = l.length := by simp [ByteArray.size]
theorem add_arr (a b : List UInt8) : (⟨a.toArray⟩ : ByteArray) ++ ⟨b.toArray⟩ = ⟨(a ++ b).toArray⟩ := by
  apply ByteArray.ext; simp

set_option maxHeartbeats 2000000 in
set_option maxRecDepth 100000 in
theorem spellT_any (k a : Nat) (t : List UInt8) (w : World) (ht : t.length ≤ 100000) :
    Calls Tryd.prog 17 #[.agg #[.int .i64 (k : Nat), .int .i64 (a : Nat), .string ⟨t.toArray⟩]] w fun e w' => e = .returned (.string ⟨(spellW (k, t)).toArray⟩) ∧ Below w.heap.size w w' := by
  have HQ := Lib.hid (fun W => quote_any ⟨t.toArray⟩ W (by rw [size_arr]; omega))
  have hsz := size_arr t
  obtain ⟨n, hn⟩ : ∃ n, (⟨t.toArray⟩ : ByteArray).size = n := ⟨_, rfl⟩
  have hn2 : n ≤ 100000 := by omega
  have B0 : Below w.heap.size w (w.alloc (.cells #[.int .i64 (k : Nat), .int .i64 (a : Nat), .string ⟨t.toArray⟩] 29)) := (Below.refl _ _).alloc (Nat.le_refl _) _
  clear hsz
  by_cases h3 : k = 3
  · subst h3
    go_enter Tryd.func17, Tryd.ntmps17
    go_wp2_with fail
    refine (HQ.out _).mono ?_
    rintro e w1 ⟨rfl, b1⟩
    go_wp2
    go_ret
    exact ⟨rfl, B0.trans (b1.mono (by simp))⟩
  · have e3 : ((k : Int) == 3) = false := by simp; omega
    by_cases h4 : k = 4
    · subst h4
      have HA := Lib.hid (add_arr t [115])
      go_enter Tryd.func17, Tryd.ntmps17
      go_wp2
      go_ret
      refine ⟨?_, B0⟩
      rw [HA.out]; rfl
    · have e4 : ((k : Int) == 4) = false := by simp; omega
      have hs : spellW (k, t) = t := by unfold spellW; rw [if_neg h3, if_neg h4]
      rw [hs]
      go_enter Tryd.func17, Tryd.ntmps17
      go_wp2
      go_ret
      exact ⟨rfl, B0⟩

/-- A slice that reads as these words. -/
def SeesW (w : World) (o : Option Addr) (ws : List Wd) : Prop := ws = [] ∨ ∃ b off, o = some ⟨b, off, none⟩ ∧ b < w.heap.size ∧ ∀ (j : Nat) (x : Wd), ws[j]? = some x →
  w.cell? ⟨b, off + j * 3, none⟩ = some (.int .i64 (x.1 : Nat)) ∧ w.cell? ⟨b, off + j * 3 + 1, none⟩ = some (.int .i64 (x.2.1 : Nat)) ∧ w.cell? ⟨b, off + j * 3 + 2, none⟩ = some (.string ⟨x.2.2.toArray⟩)
theorem SeesW.below {w w' : World} {o : Option Addr} {ws : List Wd} (h : SeesW w o ws) (hb : Below w.heap.size w w') : SeesW w' o ws :=
  h.imp id fun ⟨b, off, e, h1, h2⟩ => ⟨b, off, e, Nat.lt_of_lt_of_le h1 hb.size, fun j x hx => by
    obtain ⟨a, b', c⟩ := h2 j x hx
    exact ⟨(hb.cell (p := ⟨b, off + j * 3, none⟩) h1).trans a, (hb.cell (p := ⟨b, off + j * 3 + 1, none⟩) h1).trans b', (hb.cell (p := ⟨b, off + j * 3 + 2, none⟩) h1).trans c⟩⟩
theorem flatT_at : ∀ (xs : List Wd) (j : Nat) (x : Wd), xs[j]? = some x → ∀ (t : Nat) (u : Value), (encT x)[t]? = some u → (flatT xs)[j * 3 + t]? = some u
  | [], j, x, h, t, u, _ => by simp at h
  | y :: xs, 0, x, h, t, u, hu => by
    simp at h; subst h
    show (encT y ++ flatT xs)[0 * 3 + t]? = some u
    have ht : t < (encT y).length := (List.getElem?_eq_some_iff.1 hu).1
    rw [List.getElem?_append_left (by omega), Nat.zero_mul, Nat.zero_add]; exact hu
  | y :: xs, j + 1, x, h, t, u, hu => by
    simp at h
    show (encT y ++ flatT xs)[(j + 1) * 3 + t]? = some u
    have hl : (encT y).length = 3 := rfl
    rw [List.getElem?_append_right (by omega), hl, show (j + 1) * 3 + t - 3 = j * 3 + t by omega]
    exact flatT_at xs j x h t u hu
/-- What the call owns reads so. -/
theorem own_words {B : Nat} {v : Value} {ws : List Wd} {w : World} (h : w.ownsRow B 29 3 v ws.length (flatT ws)) : ∃ o c, v = .slice o ws.length c ∧ SeesW w o ws := by
  obtain ⟨h1, h2⟩ := h
  rcases h2 with ⟨rfl, h0⟩ | ⟨g, cap, cur, rfl, hB, hg, hn, hcm, hcs, htk⟩
  · have : ws = [] := List.eq_nil_of_length_eq_zero h0
    subst this
    exact ⟨none, 0, rfl, .inl rfl⟩
  · refine ⟨some ⟨g, 0, none⟩, cap, rfl, .inr ⟨g, 0, rfl, (Array.getElem?_eq_some_iff.1 hg).1, fun j x hx => ?_⟩⟩
    have key : ∀ (t : Nat) (u : Value), (encT x)[t]? = some u → w.cell? ⟨g, 0 + j * 3 + t, none⟩ = some u := by
      intro t u hu
      have h3 := flatT_at ws j x hx t u hu
      rw [← htk] at h3
      have h4 : cur.toList[j * 3 + t]? = some u := by
        have hl := (List.getElem?_eq_some_iff.1 h3).1
        rw [List.length_take] at hl
        rwa [List.getElem?_take_of_lt (by omega)] at h3
      rw [Nat.zero_add]
      simp only [World.cell?, hg]
      simpa using h4
    exact ⟨key 0 _ rfl, key 1 _ rfl, key 2 _ rfl⟩

theorem tok_box (w : World) (a b : Int) (c : ByteArray) : (w.alloc (Obj.cells #[Value.int .i64 a, Value.int .i64 b, Value.string c] 29)).heap[w.heap.size]? = some (.cells #[.int .i64 a, .int .i64 b, .string c] 29 (0, 0)) := Array.getElem?_push_size
theorem tok_reads {w : World} {k : Nat} {a b : Int} {c : ByteArray} (h : w.heap[k]? = some (.cells #[.int .i64 a, .int .i64 b, .string c] 29 (0, 0))) : w.cell? ⟨k, 0, none⟩ = some (.int .i64 a) ∧ w.cell? ⟨k, 1, none⟩ = some (.int .i64 b) ∧ w.cell? ⟨k, 2, none⟩ = some (.string c) := by
  refine ⟨?_, ?_, ?_⟩ <;> simp [World.cell?, h]
theorem tok_kept {b : Nat} {w w' : World} (h : Lib.OthersKept 5 (some b) w w') {k : Nat} {cs : Array Value} (hk : w.heap[k]? = some (.cells cs 29 (0, 0))) (hkb : k ≠ b) : w'.heap[k]? = some (.cells cs 29 (0, 0)) :=
  h k _ hk (fun e => hkb (Option.some.inj e)) (fun c fz e => by cases e)
theorem builder_below {T e : TypeId} {B b : Nat} {bs : List Value} {W W' : World} (h : Lib.IsBuilderF T e B b bs W) (hb : Below W.heap.size W W') : Lib.IsBuilderF T e B b bs W' := by
  have key : ∀ p, Lib.BuilderAtF T e B b p bs W → Lib.BuilderAtF T e B b p bs W' := by
    intro p h
    have hlt := h.lt
    obtain ⟨hB, v, hv, hown, hne⟩ := h
    exact ⟨hB, v, (hb.block b hlt).trans hv, hown.kept (row := none) ⟨hb.os, hb.tape, hb.output, hb.size, fun k hk _ => hb.block k hk⟩ (Classical.em _), hne⟩
  exact h.elim (fun x => .inl (key _ x)) (fun x => .inr (key _ x))

def ktW (x : Wd) : Nat × List UInt8 := (x.1, x.2.2)
theorem joinL_snoc : ∀ (ws : List (Nat × List UInt8)) (x : Nat × List UInt8), ws ≠ [] → joinL (ws ++ [x]) = joinL ws ++ 32 :: spellW x
  | [], x, h => absurd rfl h
  | [w], x, _ => rfl
  | w :: v :: ws, x, _ => by
    show spellW w ++ 32 :: joinL ((v :: ws) ++ [x]) = spellW w ++ 32 :: joinL (v :: ws) ++ 32 :: spellW x
    rw [joinL_snoc (v :: ws) x (by simp)]; simp
def joinW (ws : List Wd) : List UInt8 := joinL (ws.map ktW)
theorem joinW_one (x : Wd) : joinW [x] = spellW (ktW x) := rfl
theorem joinW_snoc (ws : List Wd) (x : Wd) (h : ws ≠ []) : joinW (ws ++ [x]) = joinW ws ++ 32 :: spellW (ktW x) := by
  unfold joinW; rw [List.map_append]; exact joinL_snoc _ _ (by simpa using h)

set_option maxHeartbeats 4000000 in
set_option maxRecDepth 100000 in
theorem join_any (o : Option Addr) (cap : Nat) (ws : List Wd) (w : World) (hm : ws.length ≤ 100000) (hS : SeesW w o ws) (hv : ∀ x ∈ ws, x.2.2.length ≤ 100000) :
    Calls Tryd.prog 9 #[.slice o ws.length cap] w fun e w' => e = .returned (.string ⟨(joinW ws).toArray⟩) ∧ Below w.heap.size w w' := by
  obtain ⟨n, hn⟩ : ∃ n, ws.length = n := ⟨_, rfl⟩
  have HN := Lib.hid hn
  rw [hn] at hm ⊢
  clear hn
  have HSO := Lib.hid hS
  have HV := Lib.hid hv
  have HQ := Lib.hid (fun k a t W h => spellT_any k a t W h)
  clear hS hv
  go_enter Tryd.func9, Tryd.ntmps9
  have hI0 := Lib.IsBuilderF.of (Lib.fresh_isBuilder 41 5 w)
  go_wp2
  go_loopw [4, 5, 8] (fun v4 v5 v9 wr => ∃ (k : Nat) (acc : List UInt8), v9 = .int .i64 k ∧ k ≤ n ∧ Lib.IsBuilderF 41 5 w.heap.size w.heap.size (Lib.byteCells acc) wr ∧ Hid (Below w.heap.size w wr) ∧ Hid (acc = joinW (ws.take k)) ∧ acc.length ≤ 600000 * k) (fun _ _ v9 _ => n - (intOf v9).toNat)
  case atStart => exact ⟨0, [], rfl, Nat.zero_le _, hI0, (Below.refl _ _).alloc (Nat.le_refl _) _, rfl, by simp⟩
  case round =>
    obtain ⟨k, acc, rfl, hk, hI, HB, H, hal⟩ := hrel
    have hzw := HB.out.size
    by_cases hkn : k < n
    · have j1 : (k : Int) < n := by omega
      obtain ⟨x, hx⟩ : ∃ x, ws[k]? = some x := ⟨ws[k]'(by rw [HN.out]; exact hkn), List.getElem?_eq_getElem _⟩
      obtain ⟨b, off, rfl, hbl, hcs⟩ : ∃ b off, o = some ⟨b, off, none⟩ ∧ b < wr.heap.size ∧ ∀ (j : Nat) (x : Wd), ws[j]? = some x → wr.cell? ⟨b, off + j * 3, none⟩ = some (.int .i64 (x.1 : Nat)) ∧ wr.cell? ⟨b, off + j * 3 + 1, none⟩ = some (.int .i64 (x.2.1 : Nat)) ∧ wr.cell? ⟨b, off + j * 3 + 2, none⟩ = some (.string ⟨x.2.2.toArray⟩) := by
        rcases HSO.out.below HB.out with h0 | h0
        · rw [h0] at hx; simp at hx
        · exact h0
      obtain ⟨c0, c1, c2⟩ := hcs k x hx
      have HX := Lib.hid hx
      have hsz := HV.out x (List.mem_of_getElem? hx)
      obtain ⟨kd, at', tx⟩ := x
      dsimp only at c0 c1 c2 hsz
      have hbx := tok_box wr (kd : Nat) (at' : Nat) ⟨tx.toArray⟩
      have HB1 := Lib.hid (show Below w.heap.size w (wr.alloc (Obj.cells #[Value.int .i64 (kd : Nat), Value.int .i64 (at' : Nat), Value.string ⟨tx.toArray⟩] 29)) from HB.out.alloc (by omega) _)
      have hI2 := hI.alloc (Obj.cells #[Value.int .i64 (kd : Nat), Value.int .i64 (at' : Nat), Value.string ⟨tx.toArray⟩] 29)
      have hlt : w.heap.size < wr.heap.size := hI.elim (fun h => h.lt) (fun h => h.lt)
      have hsl := spellW_len (kd, tx)
      dsimp only at hsl
      have htk : ws.take (k + 1) = ws.take k ++ [(kd, at', tx)] := by rw [List.take_add_one, hx]; rfl
      clear hcs hx hI
      by_cases hk0 : k = 0
      · have t1 : decide ((0 : Int) < k) = false := by simp; omega
        have j2 : (k : Int) ≤ 0 := by omega
        have H3 := Lib.hid (show acc ++ spellW (kd, tx) = joinW (ws.take (k + 1)) by
          have h0 : acc = [] := by rw [H.out, hk0]; rfl
          rw [htk, h0, hk0]; rfl)
        clear H htk hk0
        obtain ⟨W1, hW1⟩ : ∃ W1, wr.alloc (Obj.cells #[Value.int .i64 (kd : Nat), Value.int .i64 (at' : Nat), Value.string ⟨tx.toArray⟩] 29) = W1 := ⟨_, rfl⟩
        have HW := Lib.hid hW1
        rw [hW1] at hbx HB1 hI2
        clear hW1
        have hal3 : acc.length ≤ 600000 * k + 1 := by omega
        obtain ⟨acc2, hacc2⟩ : ∃ a, acc = a := ⟨_, rfl⟩
        have hc2 := hbx
        have hI3 := hI2
        have HB3 := HB1
        rw [hacc2] at H3 hI3 hal3
        have hz3 := HB3.out.size
        clear hbx hI2 HB1 hacc2 hal
        go_wp2_with fail
        rw [HW.out]
        refine (HQ.out kd at' tx _ hsz).mono ?_
        rintro e W4 ⟨rfl, b4⟩
        have HB6 := Lib.hid (HB3.out.trans (b4.mono hz3))
        have hI4 := builder_below hI3 b4
        have hz6 := HB6.out.size
        have hsa := size_arr (spellW (kd, tx))
        clear b4 HB3 hI3 hz3 hc2
        go_wp2_with fail
        refine (Tryd.Builder_WriteString_k w.heap.size w.heap.size _ _ _ hI4 (by rw [Lib.byteCells_length, hsa]; omega) hz6).mono ?_
        rintro e W5 ⟨rfl, h5, b5, k5⟩
        have hI5 : Lib.IsBuilderF 41 5 w.heap.size w.heap.size (Lib.byteCells (acc2 ++ spellW (kd, tx))) W5 := by rw [Lib.byteCells_append]; exact .inr h5
        have HB7 := Lib.hid (HB6.out.trans b5)
        have hal5 : (acc2 ++ spellW (kd, tx)).length ≤ 600000 * (k + 1) := by rw [List.length_append]; omega
        clear h5 b5 k5 HB6 hI4 hz6 hsa
        go_wp2
        go_roundw
        case rel => exact ⟨k + 1, acc2 ++ spellW (kd, tx), by go_num, by omega, hI5, HB7, H3, hal5⟩
        case measure => simp [intOf]; omega
      · have t1 : decide ((0 : Int) < k) = true := by simp; omega
        have j2 : (0 : Int) < k := by omega
        have H3 := Lib.hid (show (acc ++ [32]) ++ spellW (kd, tx) = joinW (ws.take (k + 1)) by
          rw [htk, joinW_snoc _ _ (by intro h0; have := congrArg List.length h0; rw [List.length_take, HN.out, List.length_nil] at this; omega), ← H.out]; simp [ktW])
        clear H hk0 htk
        obtain ⟨W1, hW1⟩ : ∃ W1, wr.alloc (Obj.cells #[Value.int .i64 (kd : Nat), Value.int .i64 (at' : Nat), Value.string ⟨tx.toArray⟩] 29) = W1 := ⟨_, rfl⟩
        have HW := Lib.hid hW1
        rw [hW1] at hbx HB1 hI2
        clear hW1
        have hz1 := HB1.out.size
        go_wp2_with fail
        rw [HW.out]
        refine (Tryd.Builder_WriteByte_k w.heap.size w.heap.size _ 32 _ hI2 (by rw [Lib.byteCells_length]; omega) hz1).mono ?_
        rintro e W2 ⟨rfl, h2, b2, k2⟩
        have hI3 : Lib.IsBuilderF 41 5 w.heap.size w.heap.size (Lib.byteCells (acc ++ [32])) W2 := by rw [Lib.byteCells_append]; exact .inr h2
        have hc2 := tok_kept k2 hbx (by omega)
        have HB3 := Lib.hid (HB1.out.trans b2)
        clear h2 b2 k2 hI2 hbx HB1 hz1 c0 c1 c2
        obtain ⟨d0, d1, d2⟩ := tok_reads hc2
        have hz3 := HB3.out.size
        have hal3 : (acc ++ [32]).length ≤ 600000 * k + 1 := by rw [List.length_append]; simp; omega
        obtain ⟨acc2, hacc2⟩ : ∃ a, acc ++ [32] = a := ⟨_, rfl⟩
        rw [hacc2] at H3 hI3 hal3
        clear hacc2 hal
        go_wp2_with fail
        refine (HQ.out kd at' tx _ hsz).mono ?_
        rintro e W4 ⟨rfl, b4⟩
        have HB6 := Lib.hid (HB3.out.trans (b4.mono hz3))
        have hI4 := builder_below hI3 b4
        have hz6 := HB6.out.size
        have hsa := size_arr (spellW (kd, tx))
        clear d0 d1 d2 b4 HB3 hI3 hz3 hc2
        go_wp2_with fail
        refine (Tryd.Builder_WriteString_k w.heap.size w.heap.size _ _ _ hI4 (by rw [Lib.byteCells_length, hsa]; omega) hz6).mono ?_
        rintro e W5 ⟨rfl, h5, b5, k5⟩
        have hI5 : Lib.IsBuilderF 41 5 w.heap.size w.heap.size (Lib.byteCells (acc2 ++ spellW (kd, tx))) W5 := by rw [Lib.byteCells_append]; exact .inr h5
        have HB7 := Lib.hid (HB6.out.trans b5)
        have hal5 : (acc2 ++ spellW (kd, tx)).length ≤ 600000 * (k + 1) := by rw [List.length_append]; omega
        clear h5 b5 k5 HB6 hI4 hz6 hsa
        go_wp2
        go_roundw
        case rel => exact ⟨k + 1, acc2 ++ spellW (kd, tx), by go_num, by omega, hI5, HB7, H3, hal5⟩
        case measure => simp [intOf]; omega
    · have j1 : (n : Int) ≤ k := by omega
      have H2 := Lib.hid (show acc = joinW ws by rw [H.out, List.take_of_length_le (by rw [HN.out]; omega)])
      clear H
      go_wp2_with (go_at_call 18; refine (Tryd.Builder_String_any_k w.heap.size w.heap.size acc _ hI (by omega)).mono ?_)
      rintro e W2 ⟨rfl, _, b2, _⟩
      go_wp2
      go_ret
      exact ⟨ret_str H2.out, HB.out.trans b2⟩
end Go.Proofs.YtphkodkenkiecaaDoor
