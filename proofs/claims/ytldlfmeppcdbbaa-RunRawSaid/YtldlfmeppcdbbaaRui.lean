/- Walks: the texts of a file's blocks. -/
import Derived.Test.YtldlfmeppcdbbaaRug
import Derived.RangeFuncOwn
namespace Go.Proofs.Ytldlfmeppcdbbaa.Run
open Go.RowKit Go.Lib Go.Proofs.Ytldlfmeppcdbbaa.Crc Go.Proofs.Ytldlfmeppcdbbaa.Row Go.Proofs.Ytldlfmeppcdbbaa.Vec

/-! ### A builder while other blocks turn -/
theorem builderAt_kept {T e : TypeId} {B b : Nat} {p : Value} {bs : List Value} {W W' : World} {row : Option Nat} (h : BuilderAtF T e B b p bs W) (hg : W.grownBy W' row) (hr : ∀ r, row = some r → ∃ o : Obj, W.heap[r]? = some o ∧ o.isCells = false) : BuilderAtF T e B b p bs W' := by
  have hlt := h.lt
  obtain ⟨hB, v, hv, hown, hne⟩ := h
  refine ⟨hB, v, (hg.block b hlt (fun e => ?_)).trans hv, hown.kept hg ?_, hne⟩
  · obtain ⟨o, h1, h2⟩ := hr b e.symm
    rw [hv] at h1; cases h1; cases h2
  · rcases hown.2 with ⟨rfl, _⟩ | ⟨g, cap, cur, fz, rfl, _, hg2, _⟩
    · exact .inl rfl
    · refine .inr fun e => ?_
      obtain ⟨o, h1, h2⟩ := hr g e.symm
      rw [hg2] at h1; cases h1; cases h2
theorem builder_kept {T e : TypeId} {B b : Nat} {bs : List Value} {W W' : World} {row : Option Nat} (h : IsBuilderF T e B b bs W) (hg : W.grownBy W' row) (hr : ∀ r, row = some r → ∃ o : Obj, W.heap[r]? = some o ∧ o.isCells = false) : IsBuilderF T e B b bs W' :=
  h.elim (fun x => .inl (builderAt_kept x hg hr)) (fun x => .inr (builderAt_kept x hg hr))
theorem builderAt_below {T e : TypeId} {B b : Nat} {p : Value} {bs : List Value} {W W' : World} (h : BuilderAtF T e B b p bs W) (hb : Below W.heap.size W W') : BuilderAtF T e B b p bs W' := by
  have hlt := h.lt
  obtain ⟨hB, v, hv, hown, hne⟩ := h
  exact ⟨hB, v, (hb.block b hlt).trans hv, hown.kept (row := none) ⟨hb.os, hb.tape, hb.output, hb.size, fun k hk _ => hb.block k hk⟩ (Classical.em _), hne⟩
theorem builder_below {T e : TypeId} {B b : Nat} {bs : List Value} {W W' : World} (h : IsBuilderF T e B b bs W) (hb : Below W.heap.size W W') : IsBuilderF T e B b bs W' :=
  h.elim (fun x => .inl (builderAt_below x hb)) (fun x => .inr (builderAt_below x hb))
theorem others_below {e : TypeId} {b : Option Nat} {w w' : World} (h : Below w.heap.size w w') : OthersKept e b w w' := fun k _ hk _ _ => (h.block k (Array.getElem?_eq_some_iff.1 hk).1).trans hk
theorem wrote_on {B b : Nat} {l : List UInt8} {u v w : World} (h : Wrote B b l u v) (hb : Below v.heap.size v w) (hB : B ≤ v.heap.size) : Wrote B b l u w :=
  ⟨builder_below h.has hb, h.below.trans (hb.mono hB), h.others.trans (others_below hb)⟩

def headS (n : Nat) : ByteArray := ⟨(lep ++ numB 2 n).toArray⟩
theorem headS_data (n : Nat) : (headS n).data.toList = lep ++ numB 2 n := by unfold headS; rw [Crc.str_data]
theorem headS_size (n : Nat) : (headS n).size = 5 := by rw [Lib.size_eq, headS_data, List.length_append, numB_len]; rfl
set_option maxHeartbeats 1000000 in
set_option maxRecDepth 100000 in
theorem headText_any (n : Nat) (w : World) (hn : n ≤ 60000) :
    Calls Try.prog 28 #[.int .i64 n] w fun e w' => e = .returned (.string (headS n)) ∧ Below w.heap.size w w' := by
  obtain ⟨b1, e1⟩ : ∃ b, UInt8.ofNat (n / 256) = b := ⟨_, rfl⟩
  obtain ⟨b2, e2⟩ : ∃ b, UInt8.ofNat n = b := ⟨_, rfl⟩
  have HN := Lib.hid (show (⟨#[76, 69, 80]⟩ : ByteArray) ++ ⟨#[b1, b2]⟩ = headS n from Crc.bytes_same (by
    rw [Crc.app_data, headS_data, ← e1, ← e2]
    simp [lep, numB]))
  have t1 : (n : Int) / 256 = b1.toNat := by rw [← e1, u8]; omega
  have t2 : (n : Int) % 256 = b2.toNat := by rw [← e2, u8]; omega
  have l1 := b1.toNat_lt
  have l2 := b2.toNat_lt
  clear e1 e2
  have hcv : ∀ W : World, (convert 36 9 (.slice (some ⟨W.heap.size, 0, none⟩) 2 2)).run Try.prog (W.alloc (Obj.cells #[.int .u8 b1.toNat, .int .u8 b2.toNat] 5)) = .ok (.string ⟨#[b1, b2]⟩) _ := fun W => run_convert_bytes_back (P := Try.prog) (W.alloc (Obj.cells #[.int .u8 b1.toNat, .int .u8 b2.toNat] 5)) 36 9 5 ⟨W.heap.size, 0, none⟩ 2 [b1, b2] Try.underlying36 Try.underlying5 Try.underlying9 (by
    intro j hj
    match j, hj with
    | 0, _ => simp [Addr.add]
    | 1, _ => simp [Addr.add]
    | j + 2, hj => simp at hj; omega)
  go_enter Try.func28, Try.ntmps28
  go_wp2
  go_ret
  exact ⟨ret_s HN.out, (Below.refl _ _).alloc (Nat.le_refl _) _⟩
set_option maxHeartbeats 1000000 in
set_option maxRecDepth 100000 in
theorem rframe_any (s : ByteArray) (w : World) (hs : s.size ≤ 12000) :
    Calls Try.prog 27 #[.string s] w fun e w' => e = .returned (.string (frameS s)) ∧ Below w.heap.size w w' := by
  have HF := Lib.hid (frame_any s w hs)
  clear hs
  go_enter Try.func27, Try.ntmps27
  go_wp2_with fail
  refine HF.out.mono ?_
  rintro e w1 ⟨rfl, b1⟩
  go_wp2
  go_ret
  exact ⟨rfl, b1⟩

theorem catR_takeS {xs : List Rw} {k : Nat} {x : Rw} (h : xs[k]? = some x) : catR (xs.take (k + 1)) = catR (xs.take k) ++ putR x.1 x.2 := by
  rw [List.take_add_one, h, catR_app]; simp [catR]
def catS (xs : List Rw) : ByteArray := ⟨(catR xs).toArray⟩
theorem catS_data (xs : List Rw) : (catS xs).data.toList = catR xs := by unfold catS; rw [Crc.str_data]
theorem catS_size (xs : List Rw) : (catS xs).size = (catR xs).length := by rw [Lib.size_eq, catS_data]
theorem okX_okR {x : Rw} (h : okX x = true) : okR x.1 x.2 = true := h
set_option maxHeartbeats 4000000 in
set_option maxRecDepth 100000 in
theorem rowsText_any (o : Option Addr) (n c : Nat) (xs : List Rw) (w : World) (B : Nat) (hn : xs.length = n) (hn8 : n ≤ 8) (hok : ∀ x ∈ xs, okX x = true) (hS : RowsS w B o xs) :
    Calls Try.prog 30 #[.slice o n c] w fun e w' => e = .returned (.tuple #[.string (catS xs), .int .i64 0]) ∧ Below w.heap.size w w' := by
  have HS := Lib.hid hS
  have HN := Lib.hid hn
  have HOK := Lib.hid hok
  have hI0 := Lib.hid (Lib.IsBuilderF.of (Lib.fresh_isBuilder 60 5 w))
  have HA := Lib.hid ((Below.refl w.heap.size w).alloc (Nat.le_refl _) (Obj.cells #[Value.pointer none, Value.slice none 0 0] 60))
  obtain ⟨W0, hW0⟩ : ∃ W0, w.alloc (Obj.cells #[Value.pointer none, Value.slice none 0 0] 60) = W0 := ⟨_, rfl⟩
  rw [hW0] at hI0 HA
  have HW0 := Lib.hid hW0
  have hz0 := HA.out.size
  have hle : ∀ k, (catR (xs.take k)).length ≤ 1463 * 8 := fun k => by
    have h1 := catR_le (xs.take k) (fun x hx => hok x (List.mem_of_mem_take hx))
    have h2 : (xs.take k).length ≤ 8 := by rw [List.length_take]; omega
    omega
  clear hS hn hok hW0
  go_enter Try.func30, Try.ntmps30
  go_wp2
  rw [HW0.out]
  go_loopw [6, 7, 8, 11] (fun _ _ _ v11 wr => ∃ (k : Nat) (acc : List UInt8), v11 = .int .i64 k ∧ k ≤ n ∧ Hid (acc = catR (xs.take k)) ∧ acc.length ≤ 11704 ∧ Hid (Wrote w.heap.size w.heap.size acc W0 wr)) (fun _ _ _ v11 _ => n - (Go.RowKit.intOf v11).toNat)
  case atStart => exact ⟨0, [], rfl, Nat.zero_le _, rfl, by simp, ⟨hI0.out, Below.refl _ _, Lib.OthersKept.refl _ _ _⟩⟩
  case round =>
    obtain ⟨k, acc, rfl, hk, HC, hal, HW⟩ := hrel
    have hzw := HW.out.below.size
    have HBW := Lib.hid (HA.out.trans HW.out.below)
    by_cases hkn : k < n
    · have j1 : (k : Int) < n := by omega
      obtain ⟨x, hx⟩ := get_ltG HN.out hkn
      obtain ⟨bA, offA, rfl, hR⟩ := (HS.out.below frow HBW.out).at hx
      obtain ⟨oL, cL, c0, c1, hL, lL⟩ := row_at hR hx
      have hok := okX_okR (HOK.out x (List.mem_of_getElem? hx))
      obtain ⟨nL, hnL⟩ : ∃ nL, x.1.length = nL := ⟨_, rfl⟩
      have hn8 : nL ≤ 8 := by rw [← hnL]; exact right_len (okX_right (x := x) hok).1
      rw [hnL] at c0 lL
      obtain ⟨v, hv⟩ : ∃ v, x.2 = v := ⟨_, rfl⟩
      rw [hv] at c1
      have hA2 := (Below.refl wr.heap.size wr).alloc (Nat.le_refl _) (Obj.cells #[Value.slice oL nL cL, Value.int .i64 v] 40)
      have HP := Lib.hid (show Calls Try.prog 47 #[.agg #[.slice oL nL cL, .int .i64 v]] (wr.alloc (Obj.cells #[Value.slice oL nL cL, Value.int .i64 v] 40)) fun e w' => e = .returned (.tuple #[.string (putS x.1 v), .int .i64 0]) ∧ Below (wr.alloc (Obj.cells #[Value.slice oL nL cL, Value.int .i64 v] 40)).heap.size (wr.alloc (Obj.cells #[Value.slice oL nL cL, Value.int .i64 v] 40)) w' from by
        have := rput_any oL nL cL x.1 v (wr.alloc (Obj.cells #[Value.slice oL nL cL, Value.int .i64 v] 40)) hnL lL (hL.sees.below hA2)
        rwa [show putE x.1 v = 0 by unfold putE; rw [← hv, hok]; rfl] at this)
      have hps : (putS x.1 v).size ≤ 4103 := by
        unfold putS; rw [← hv, if_pos hok, Crc.str_size]; exact putR_len (okX_right (x := x) hok).1
      have HC2 := Lib.hid (show acc ++ (putS x.1 v).data.toList = catR (xs.take (k + 1)) by
        rw [catR_takeS hx, HC.out]
        unfold putS; rw [← hv, if_pos hok, Crc.str_data])
      have hal2 : (acc ++ (putS x.1 v).data.toList).length ≤ 11704 := by rw [HC2.out]; exact hle (k + 1)
      have HW2 := Lib.hid (HW.out.alloc (by omega) (Obj.cells #[Value.slice oL nL cL, Value.int .i64 v] 40))
      have hz2 : (wr.alloc (Obj.cells #[Value.slice oL nL cL, Value.int .i64 v] 40)).heap.size = wr.heap.size + 1 := Array.size_push _
      obtain ⟨s, hs⟩ : ∃ s, putS x.1 v = s := ⟨_, rfl⟩
      rw [hs] at HP HC2 hps hal2
      have hbx := box_row wr (.slice oL nL cL) (.int .i64 v) 40
      obtain ⟨W1, hW1⟩ : ∃ W1, wr.alloc (Obj.cells #[Value.slice oL nL cL, Value.int .i64 v] 40) = W1 := ⟨_, rfl⟩
      rw [hW1] at HP HW2 hz2 hbx
      have HW1 := Lib.hid hW1
      obtain ⟨d0, d1⟩ := box_two hbx
      clear hL hR hx hok hnL hv hA2 hs hW1 hbx
      go_wp2_with fail
      rw [HW1.out]
      refine HP.out.mono ?_
      rintro e w4 ⟨rfl, b4⟩
      have HW4 := Lib.hid (wrote_on HW2.out b4 (by omega))
      clear b4 c0 c1 d0 d1 HP
      go_wp2_with fail
      refine (text_any w.heap.size w.heap.size acc s _ HW4.out.has (by omega) (by omega) (by have := HW4.out.below.size; omega)).mono ?_
      rintro e w5 ⟨rfl, h5⟩
      have HW5 := Lib.hid (HW4.out.trans h5)
      clear h5
      go_wp2
      go_roundw
      case rel => exact ⟨k + 1, _, by go_num, by omega, HC2, hal2, HW5⟩
      case measure => simp [Go.RowKit.intOf]; omega
    · have j1 : (n : Int) ≤ k := by omega
      have HC2 := Lib.hid (show acc = catR xs by rw [HC.out, List.take_of_length_le (by rw [HN.out]; omega)])
      go_wp2_with fail
      refine (Try.Builder_String_any_k w.heap.size w.heap.size _ _ HW.out.has (by omega)).mono ?_
      rintro e w4 ⟨rfl, _, b4, _⟩
      have HB5 := Lib.hid (HBW.out.trans b4)
      clear b4
      go_wp2
      go_ret2
      rw [HC2.out]
      exact ⟨rfl, HB5.out⟩
end Go.Proofs.Ytldlfmeppcdbbaa.Run
