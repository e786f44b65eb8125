/- Walks: a text's block; the reader's next block; how many rows, these rows, the end. -/
import Derived.Test.YtldlfmeppcdbbaaRub
import Derived.Test.YtldlfmeppcdbbaaRuc
import Derived.Deep.QuietTactic
import Derived.BigQuiet
namespace Go.Proofs.Ytldlfmeppcdbbaa.Run
open Go.RowKit Go.Lib Go.Proofs.Ytldlfmeppcdbbaa.Crc Go.Proofs.Ytldlfmeppcdbbaa.Row Go.Proofs.Ytldlfmeppcdbbaa.Vec

/-- What stands behind an interface for a block. -/
def BlkR (B : Nat) (w' : World) (b : Blk) (v : Value) : Prop :=
  match b with
  | .bBad => v = .nilIface
  | .bEnd => v = .iface 88 (.agg #[])
  | .bHead n => v = .iface 81 (.int .i64 (n : Nat))
  | .bRows l => ∃ o c us, v = .iface 85 (.slice o l.length c) ∧ OwnR w' B (.slice o l.length c) us l

theorem th_nil (W : World) : (Instr.typeAssert .nilIface 83 81 true).run Try.prog W = .ok (.tuple #[.int .i64 0, .bool false]) W := by kernel_rfl
theorem th_end (W : World) : (Instr.typeAssert (.iface 88 (.agg #[])) 83 81 true).run Try.prog W = .ok (.tuple #[.int .i64 0, .bool false]) W := by kernel_rfl
theorem th_head (n : Int) (W : World) : (Instr.typeAssert (.iface 81 (.int .i64 n)) 83 81 true).run Try.prog W = .ok (.tuple #[.int .i64 n, .bool true]) W := by kernel_rfl
theorem th_some (o : Option Addr) (n c : Nat) (W : World) : (Instr.typeAssert (.iface 85 (.slice o n c)) 83 81 true).run Try.prog W = .ok (.tuple #[.int .i64 0, .bool false]) W := by kernel_rfl
theorem ts_nil (W : World) : (Instr.typeAssert .nilIface 83 85 true).run Try.prog W = .ok (.tuple #[.slice none 0 0, .bool false]) W := by kernel_rfl
theorem ts_end (W : World) : (Instr.typeAssert (.iface 88 (.agg #[])) 83 85 true).run Try.prog W = .ok (.tuple #[.slice none 0 0, .bool false]) W := by kernel_rfl
theorem ts_head (n : Int) (W : World) : (Instr.typeAssert (.iface 81 (.int .i64 n)) 83 85 true).run Try.prog W = .ok (.tuple #[.slice none 0 0, .bool false]) W := by kernel_rfl
theorem ts_some (o : Option Addr) (n c : Nat) (W : World) : (Instr.typeAssert (.iface 85 (.slice o n c)) 83 85 true).run Try.prog W = .ok (.tuple #[.slice o n c, .bool true]) W := by kernel_rfl
theorem te_nil (W : World) : (Instr.typeAssert .nilIface 83 88 true).run Try.prog W = .ok (.tuple #[.agg #[], .bool false]) W := by kernel_rfl
theorem te_end (W : World) : (Instr.typeAssert (.iface 88 (.agg #[])) 83 88 true).run Try.prog W = .ok (.tuple #[.agg #[], .bool true]) W := by kernel_rfl
theorem te_head (n : Int) (W : World) : (Instr.typeAssert (.iface 81 (.int .i64 n)) 83 88 true).run Try.prog W = .ok (.tuple #[.agg #[], .bool false]) W := by kernel_rfl
theorem te_some (o : Option Addr) (n c : Nat) (W : World) : (Instr.typeAssert (.iface 85 (.slice o n c)) 83 88 true).run Try.prog W = .ok (.tuple #[.agg #[], .bool false]) W := by kernel_rfl

theorem pre_lep (t : List UInt8) : hasPrefix t [76, 69, 80] = decide (t.take 3 = lep) := by
  rw [← hasPrefix_of_take]
  rw [Bool.eq_iff_iff, Bool.and_eq_true, decide_eq_true_iff, decide_eq_true_iff, beq_iff_eq]
  constructor
  · exact fun h => h.2
  · intro h
    refine ⟨?_, h⟩
    have := congrArg List.length h
    rw [List.length_take] at this
    have h3 : lep.length = 3 := rfl
    have h4 : [(76 : UInt8), 69, 80].length = 3 := rfl
    omega

set_option maxHeartbeats 1000000 in
set_option maxRecDepth 100000 in
theorem cut_yes (s : ByteArray) (w : World) (h : s.data.toList.take 3 = lep) :
    Calls Try.prog 62 #[.string s, .string ⟨#[76, 69, 80]⟩] w fun e w' => e = .returned (.tuple #[.string (s.extract 3 s.size), .bool true]) ∧ w' = w := by
  have HH := Lib.hid (fun (W : World) => (show Calls Try.prog 75 #[.string s, .string ⟨#[76, 69, 80]⟩] W fun e w' => e = .returned (.bool true) ∧ w' = W from by
    have := Try.stringslite_HasPrefix s ⟨#[76, 69, 80]⟩ W
    rwa [show Lib.hasPrefix s.data.toList (⟨#[76, 69, 80]⟩ : ByteArray).data.toList = true from (pre_lep _).trans (decide_eq_true h)] at this))
  have hs3 : 3 ≤ s.size := by
    have := congrArg List.length h
    rw [List.length_take, ← Lib.size_eq] at this
    have h3 : lep.length = 3 := rfl
    omega
  obtain ⟨m, hm⟩ : ∃ m, s.size = m := ⟨_, rfl⟩
  have j1 : (3 : Int) ≤ m := by omega
  have HC := Lib.hid (fun (W : World) => (show Calls Try.prog 70 #[.string s, .string ⟨#[76, 69, 80]⟩] W fun e w' => e = .returned (.tuple #[.string (s.extract 3 m), .bool true]) ∧ w' = W from by
    go_enter Try.func70, Try.ntmps70
    go_wp2_with fail
    refine (HH.out _).mono ?_
    rintro e w1 ⟨rfl, rfl⟩
    go_wp2
    go_ret2
    exact ⟨rfl, rfl⟩))
  rw [hm]
  clear hs3 h HH
  go_enter Try.func62, Try.ntmps62
  go_wp2_with fail
  refine (HC.out _).mono ?_
  rintro e w1 ⟨rfl, rfl⟩
  go_wp2
  go_ret2
  exact ⟨rfl, rfl⟩
set_option maxHeartbeats 1000000 in
set_option maxRecDepth 100000 in
theorem cut_no (s : ByteArray) (w : World) (h : s.data.toList.take 3 ≠ lep) :
    Calls Try.prog 62 #[.string s, .string ⟨#[76, 69, 80]⟩] w fun e w' => e = .returned (.tuple #[.string s, .bool false]) ∧ w' = w := by
  have HH := Lib.hid (fun (W : World) => (show Calls Try.prog 75 #[.string s, .string ⟨#[76, 69, 80]⟩] W fun e w' => e = .returned (.bool false) ∧ w' = W from by
    have := Try.stringslite_HasPrefix s ⟨#[76, 69, 80]⟩ W
    rwa [show Lib.hasPrefix s.data.toList (⟨#[76, 69, 80]⟩ : ByteArray).data.toList = false from (pre_lep _).trans (decide_eq_false h)] at this))
  have HC := Lib.hid (fun (W : World) => (show Calls Try.prog 70 #[.string s, .string ⟨#[76, 69, 80]⟩] W fun e w' => e = .returned (.tuple #[.string s, .bool false]) ∧ w' = W from by
    go_enter Try.func70, Try.ntmps70
    go_wp2_with fail
    refine (HH.out _).mono ?_
    rintro e w1 ⟨rfl, rfl⟩
    go_wp2
    go_ret2
    exact ⟨rfl, rfl⟩))
  clear h HH
  go_enter Try.func62, Try.ntmps62
  go_wp2_with fail
  refine (HC.out _).mono ?_
  rintro e w1 ⟨rfl, rfl⟩
  go_wp2
  go_ret2
  exact ⟨rfl, rfl⟩

theorem toL_eq (a b : ByteArray) : (a.toList == b.toList) = true ↔ a = b := by
  rw [beq_iff_eq, ByteArray.toList_eq, ByteArray.toList_eq]
  exact ⟨Crc.bytes_same, fun e => by rw [e]⟩
set_option maxHeartbeats 4000000 in
set_option maxRecDepth 100000 in
theorem blockOf_any (t : ByteArray) (w : World) (ht : t.size ≤ 100000) :
    Calls Try.prog 51 #[.string t] w fun e w' => (∃ v, e = .returned v ∧ BlkR w.heap.size w' (blockP t.data.toList) v) ∧ Below w.heap.size w w' := by
  by_cases hf : t.data.toList = fin
  · have hfe : t = ⟨#[69, 78, 68]⟩ := Crc.bytes_same hf
    subst hfe
    have HX := Lib.hid (show blockP (⟨#[69, 78, 68]⟩ : ByteArray).data.toList = .bEnd by rw [hf]; rfl)
    clear hf ht
    go_enter Try.func51, Try.ntmps51
    go_wp2
    go_ret
    rw [HX.out]
    exact ⟨⟨_, rfl, rfl⟩, Below.refl _ _⟩
  have hne : (t.toList == (⟨#[69, 78, 68]⟩ : ByteArray).toList) = false := by
    cases h : (t.toList == (⟨#[69, 78, 68]⟩ : ByteArray).toList) with
    | false => rfl
    | true => exact absurd (congrArg (fun s : ByteArray => s.data.toList) ((toL_eq _ _).1 h)) hf
  have hne2 : (t.toList == [69, 78, 68]) = false := by
    have : (⟨#[69, 78, 68]⟩ : ByteArray).toList = [69, 78, 68] := by rw [ByteArray.toList_eq]
    rwa [this] at hne
  by_cases hh : t.data.toList.take 3 = lep ∧ t.data.toList.length = 5
  · obtain ⟨h3, h5⟩ := hh
    have hts : t.size = 5 := by rw [Lib.size_eq]; exact h5
    have HX := Lib.hid (block_head h3 h5)
    have HC := Lib.hid (fun W => cut_yes t W h3)
    rw [hts] at HC
    obtain ⟨u, hu⟩ : ∃ u, t.extract 3 5 = u := ⟨_, rfl⟩
    rw [hu] at HC
    have hud : u.data.toList = t.data.toList.drop 3 := by rw [← hu, ← hts, ext_rest]
    have hus : u.size = 2 := by rw [Lib.size_eq, hud, List.length_drop, h5]
    obtain ⟨a, b, hab⟩ : ∃ a b, u.data.toList = [a, b] := by
      match hl : u.data.toList, (show u.data.toList.length = 2 by rw [← Lib.size_eq]; exact hus) with
      | [a, b], _ => exact ⟨a, b, rfl⟩
    have hue : u = ⟨#[a, b]⟩ := Crc.bytes_same hab
    subst hue
    rw [← hud] at HX
    have hv : valA 0 (⟨#[a, b]⟩ : ByteArray).data.toList = a.toNat * 256 + b.toNat := by simp [valA]
    rw [hv] at HX
    have la := a.toNat_lt
    have lb := b.toNat_lt
    obtain ⟨x, hx⟩ : ∃ x : Nat, a.toNat = x := ⟨_, rfl⟩
    obtain ⟨y, hy⟩ : ∃ y : Nat, b.toNat = y := ⟨_, rfl⟩
    have hbits := or_byte x y (by omega) (by omega)
    rw [hx, hy] at HX
    have i0 : ∀ W : World, (Instr.index 9 (.string ⟨#[a, b]⟩) (.int .i64 0)).run Try.prog W = .ok (.int .u8 x) W := fun W => by
      rw [run_index_string (P := Try.prog) W 9 _ .i64 0 Try.underlying9, dif_pos ⟨by decide, by rw [hus]; decide⟩, ← hx]; rfl
    have i1 : ∀ W : World, (Instr.index 9 (.string ⟨#[a, b]⟩) (.int .i64 1)).run Try.prog W = .ok (.int .u8 y) W := fun W => by
      rw [run_index_string (P := Try.prog) W 9 _ .i64 1 Try.underlying9, dif_pos ⟨by decide, by rw [hus]; decide⟩, ← hy]; rfl
    clear hf hne hts h3 h5 hu hud hus hab hv
    go_enter Try.func51, Try.ntmps51
    go_wp2_with fail
    refine (HC.out _).mono ?_
    rintro e w1 ⟨rfl, rfl⟩
    go_wp2_with fail
    go_region
    go_wp2
    go_ret
    rw [HX.out]
    exact ⟨⟨_, rfl, by show _ = _; rw [Int.natCast_add, Int.natCast_mul]; rfl⟩, (Below.refl _ _).drew⟩
  · have HRo := Lib.hid (fun (W : World) => rowsOf_any t W ht)
    have HX := Lib.hid (show blockP t.data.toList = match rowsG 8 t.data.toList with
      | some l => .bRows l
      | none => .bBad from by unfold blockP; rw [if_neg hf, if_neg hh]; cases rowsG 8 t.data.toList <;> rfl)
    have fini : ∀ (W W' : World) (e : Ending), RowsR W.heap.size (rowsG 8 t.data.toList) e W' → Hid (∃ v b, e = .returned (.tuple #[v, .bool b]) ∧ (∃ o n c, v = .slice o n c) ∧ BlkR W.heap.size W' (blockP t.data.toList) (if b then .iface 85 v else .nilIface)) := fun W W' e h => by
      rw [HX.out]
      cases hg : rowsG 8 t.data.toList with
      | none =>
        rw [hg] at h
        exact ⟨_, false, h, ⟨_, _, _, rfl⟩, rfl⟩
      | some l =>
        rw [hg] at h
        obtain ⟨v, us, h1, h2⟩ := h
        obtain ⟨o, c, rfl, _, _⟩ := h2.sees frow
        exact ⟨_, true, h1, ⟨_, _, _, rfl⟩, o, c, us, rfl, h2⟩
    have HFI := Lib.hid fini
    clear fini
    by_cases h3 : t.data.toList.take 3 = lep
    · have h5 : t.data.toList.length ≠ 5 := fun e => hh ⟨h3, e⟩
      have HC := Lib.hid (fun W => cut_yes t W h3)
      obtain ⟨m, hm⟩ : ∃ m, t.size = m := ⟨_, rfl⟩
      rw [hm] at HC
      have hm3 : 3 ≤ m := by
        have := congrArg List.length h3
        rw [List.length_take, ← Lib.size_eq] at this
        have h3 : lep.length = 3 := rfl
        omega
      obtain ⟨u, hu⟩ : ∃ u, t.extract 3 m = u := ⟨_, rfl⟩
      have hus : u.size = m - 3 := by rw [← hu, ByteArray.size_extract]; omega
      obtain ⟨q, hq⟩ : ∃ q, u.size = q := ⟨_, rfl⟩
      have j2 : ¬ ((q : Int) = 2) := by rw [← Lib.size_eq] at h5; omega
      rw [hu] at HC
      clear hf hne hh h3 h5 hm hm3 hu hus HX
      go_enter Try.func51, Try.ntmps51
      go_wp2_with fail
      refine (HC.out _).mono ?_
      rintro e w1 ⟨rfl, rfl⟩
      go_wp2_with fail
      refine (HRo.out _).mono ?_
      rintro e w2 ⟨h2, b2⟩
      obtain ⟨v, b, rfl, ⟨o, n, c, rfl⟩, h3⟩ := (HFI.out _ _ _ h2).out
      have HB2 := Lib.hid b2
      have HE := Lib.hid h3
      clear h2 b2 h3
      cases b with
      | false =>
        go_wp2
        go_ret
        exact ⟨⟨_, rfl, HE.out⟩, HB2.out⟩
      | true =>
        go_wp2
        go_ret
        exact ⟨⟨_, rfl, HE.out⟩, HB2.out⟩
    · have HC := Lib.hid (fun W => cut_no t W h3)
      clear hf hne hh h3 HX
      go_enter Try.func51, Try.ntmps51
      go_wp2_with fail
      refine (HC.out _).mono ?_
      rintro e w1 ⟨rfl, rfl⟩
      go_wp2_with fail
      refine (HRo.out _).mono ?_
      rintro e w2 ⟨h2, b2⟩
      obtain ⟨v, b, rfl, ⟨o, n, c, rfl⟩, h3⟩ := (HFI.out _ _ _ h2).out
      have HB2 := Lib.hid b2
      have HE := Lib.hid h3
      clear h2 b2 h3
      cases b with
      | false =>
        go_wp2
        go_ret
        exact ⟨⟨_, rfl, HE.out⟩, HB2.out⟩
      | true =>
        go_wp2
        go_ret
        exact ⟨⟨_, rfl, HE.out⟩, HB2.out⟩
end Go.Proofs.Ytldlfmeppcdbbaa.Run
