import Derived.Test.YtleldfhfdgjfmaaMg12
import Derived.Laws.IdiomStrings
import Derived.Laws.Small
section
/- The statement on limits: what is put, plain. -/

namespace Go.Proofs.Ytleldfhfdgjfmaa.Sto
open Go.RowKit

def by8 (n : Nat) : UInt8 := n.toUInt8
theorem by8_is {n : Nat} (h : n < 256) : ((by8 n).toNat : Int) = n := by
  unfold by8; simp; omega
/-- The labels of a series. -/
def hostL (i : Nat) : ByteArray := ⟨#[104, by8 (65 + i / 10), by8 (48 + i % 10)]⟩
def labL (i : Nat) : Labs := [(⟨#[104, 111, 115, 116]⟩, hostL i), (⟨#[109, 101, 116, 114, 105, 99]⟩, ⟨#[99, 112, 117]⟩)]
theorem hostL_size (i : Nat) : (hostL i).size = 3 := rfl
theorem labL_small (i : Nat) : Small (labL i) := ⟨by simp [labL], fun y hy => by
  simp only [labL, List.mem_cons, List.not_mem_nil, or_false] at hy
  rcases hy with rfl | rfl
  · exact ⟨(show (⟨#[104, 111, 115, 116]⟩ : ByteArray).size ≤ 1000 by decide), (show (hostL i).size ≤ 1000 by rw [hostL_size]; decide)⟩
  · exact ⟨by decide, by decide⟩⟩
theorem may_all : ((List.range 60).all fun i => mayB (labL i)) = true := by kernel_rfl
theorem may_at {i : Nat} (h : i < 60) : mayB (labL i) = true := List.all_eq_true.1 may_all i (List.mem_range.2 h)
theorem lt_all : ((List.range 60).all fun i => (List.range i).all fun j => Keys.lt (labL j) (labL i)) = true := by kernel_rfl
theorem lt_at {i j : Nat} (h : i < 60) (hj : j < i) : Keys.lt (labL j) (labL i) = true :=
  List.all_eq_true.1 (List.all_eq_true.1 lt_all i (List.mem_range.2 h)) j (List.mem_range.2 hj)
/-- What is there ahead of a round, and within it. -/
def base (m i : Nat) : List Srs := (List.range (min i 40)).map fun j => (labL j, run (min m 25))
def stL (m i k : Nat) : List Srs := base m i ++ if i < 40 ∧ 0 < k then [(labL i, run (min k 25))] else []
theorem base_len (m i : Nat) : (base m i).length = min i 40 := by simp [base]
theorem base_lt {m i : Nat} (hi : i < 60) : ∀ a ∈ base m i, Keys.lt a.1 (labL i) = true := fun a h => by
  unfold base at h
  obtain ⟨j, hj, rfl⟩ := List.mem_map.1 h
  have := List.mem_range.1 hj
  exact lt_at hi (by omega)
theorem put_stL {m i k : Nat} (hi : i < 60) (hk : k < 40) : putC (stL m i k) (labL i) k k = (stL m i (k + 1), if 40 ≤ i ∨ 25 ≤ k then 8 else 0) := by
  unfold putC
  rw [if_pos ⟨may_at hi, ⟨by omega, by omega⟩, by simp [Fix.rgtB, Fix.rgt]; omega⟩]
  unfold stL
  by_cases h4 : 40 ≤ i
  · rw [if_neg (by omega), if_neg (by omega), List.append_nil, if_pos (.inl h4)]
    exact put_none _ (base_lt hi) (by rw [base_len]; omega)
  · obtain rfl | ⟨n, rfl⟩ : k = 0 ∨ ∃ n, k = n + 1 := by cases k <;> simp
    · rw [if_neg (by omega), List.append_nil, if_pos ⟨by omega, by omega⟩, if_neg (by omega)]
      exact put_new (K := Labs) (base_lt hi) (by rw [base_len]; omega)
    · rw [if_pos ⟨by omega, by omega⟩, if_pos ⟨by omega, by omega⟩]
      by_cases h25 : 25 ≤ n + 1
      · rw [show min (n + 1) 25 = 25 by omega, show min (n + 1 + 1) 25 = 25 by omega, if_pos (.inr h25)]
        exact put_full (K := Labs) (base_lt hi) h25
      · rw [show min (n + 1) 25 = n + 1 by omega, show min (n + 1 + 1) 25 = n + 1 + 1 by omega, if_neg (by omega)]
        exact put_more (K := Labs) (base_lt hi) (by omega)
theorem row_end {m i : Nat} (hm : 1 ≤ m) : stL m i m = stL m (i + 1) 0 := by
  unfold stL
  rw [if_neg (c := i + 1 < 40 ∧ 0 < 0) (by omega), List.append_nil]
  by_cases h : i < 40
  · rw [if_pos ⟨h, hm⟩]
    unfold base
    rw [show min (i + 1) 40 = i + 1 by omega, show min i 40 = i by omega, List.range_succ, List.map_append]
    rfl
  · rw [if_neg (by omega), List.append_nil]
    unfold base
    rw [show min (i + 1) 40 = min i 40 by omega]
theorem stL_none (m i : Nat) : stL m i 0 = base m i := by
  unfold stL; rw [if_neg (by omega), List.append_nil]
theorem base_points (m i : Nat) : pointsN (K := Labs) (base m i) = min i 40 * min m 25 := by
  have : ∀ c, pointsN (K := Labs) ((List.range c).map fun j => (labL j, run (min m 25))) = c * min m 25 := by
    intro c
    induction c with
    | zero => simp [pointsN]
    | succ c ih =>
      unfold pointsN at ih ⊢
      rw [List.range_succ, List.map_append, List.map_append, List.sum_append, ih, Nat.succ_mul]
      simp [run_len]
  exact this _
theorem labL_sees (w : World) (b i : Nat) (h : w.heap[b]? = some (.cells #[.string ⟨#[104, 111, 115, 116]⟩, .string (hostL i), .string ⟨#[109, 101, 116, 114, 105, 99]⟩, .string ⟨#[99, 112, 117]⟩] 58 (0, 0))) : SeesO w (some ⟨b, 0, none⟩) (labL i) := by
  refine .inr ⟨b, 0, rfl, (Array.getElem?_eq_some_iff.1 h).1, fun j x hx => ?_, fun j x hx => ?_⟩
  all_goals
    match j, hx with
    | 0, hx => simp [labL] at hx; subst hx; simp [World.cell?, h]
    | 1, hx => simp [labL] at hx; subst hx; simp [World.cell?, h]
    | j + 2, hx => simp [labL] at hx
end Go.Proofs.Ytleldfhfdgjfmaa.Sto
end

section
/- The walk of the statement on limits. -/



namespace Go.Proofs.Ytleldfhfdgjfmaa.Sto
open Go.RowKit

theorem bytes3 (W : World) (b1 b2 : UInt8) : (convert 56 9 (.slice (some ⟨W.heap.size, 0, none⟩) 3 3)).run Try.prog (W.alloc (Obj.cells #[.int .u8 104, .int .u8 b1.toNat, .int .u8 b2.toNat] 5)) = .ok (.string ⟨#[104, b1, b2]⟩) (W.alloc (Obj.cells #[.int .u8 104, .int .u8 b1.toNat, .int .u8 b2.toNat] 5)) :=
  run_convert_bytes_back (P := Try.prog) (W.alloc (Obj.cells #[.int .u8 104, .int .u8 b1.toNat, .int .u8 b2.toNat] 5)) 56 9 5 ⟨W.heap.size, 0, none⟩ 3 [104, b1, b2] Try.underlying56 Try.underlying5 Try.underlying9 (by
    intro j hj
    match j, hj with
    | 0, _ => simp [Addr.add]
    | 1, _ => simp [Addr.add]
    | 2, _ => simp [Addr.add]
    | j + 3, hj => simp at hj; omega)
theorem span_own {B b c : Nat} {w : World} {p : Nat} {xs : List Srs} (h : St (Span B b c w) w p xs) (hB : B ≤ c) (hc : b ≤ w.heap.size) : Own B w p xs :=
  h.same (Nat.le_refl _) (fun _ _ => rfl) (fun k hk => by
    rcases hk with hk | hk
    · exact ⟨hk.1, by omega⟩
    · exact ⟨by omega, hk.2⟩) fun _ hk => hk.2
theorem own_span {B : Nat} {w W : World} {p : Nat} {xs : List Srs} (h : Own B w p xs) (hb : Below w.heap.size w W) : St (Span B w.heap.size W.heap.size W) W p xs :=
  St.same h hb.size (fun k hk => hb.block k hk.2) (fun _ hk => .inl hk) fun k hk => by
    have := hb.size
    rcases hk with hk | hk <;> omega

set_option maxHeartbeats 16000000 in
set_option maxRecDepth 100000 in
theorem limits_any (n m : Int) (w : World) :
    Calls Try.prog 6 #[.int .i64 n, .int .i64 m] w fun e w' => e = .returned (.bool true) ∧ Below w.heap.size w w' := by
  have HAlive := Lib.hid (fun W => alive_any W)
  by_cases h1 : n < 1
  · go_enter Try.func6, Try.ntmps6
    go_wp2_with fail
    refine (HAlive.out _).mono ?_
    rintro e w1 ⟨rfl, b1⟩
    go_wp2
    go_ret
    exact ⟨rfl, b1⟩
  by_cases h2 : 60 < n
  · go_enter Try.func6, Try.ntmps6
    go_wp2_with fail
    refine (HAlive.out _).mono ?_
    rintro e w1 ⟨rfl, b1⟩
    go_wp2
    go_ret
    exact ⟨rfl, b1⟩
  by_cases h3 : m < 1
  · go_enter Try.func6, Try.ntmps6
    go_wp2_with fail
    refine (HAlive.out _).mono ?_
    rintro e w1 ⟨rfl, b1⟩
    go_wp2
    go_ret
    exact ⟨rfl, b1⟩
  by_cases h4 : 40 < m
  · go_enter Try.func6, Try.ntmps6
    go_wp2_with fail
    refine (HAlive.out _).mono ?_
    rintro e w1 ⟨rfl, b1⟩
    go_wp2
    go_ret
    exact ⟨rfl, b1⟩
  obtain ⟨n, rfl⟩ : ∃ k : Nat, n = k := ⟨n.toNat, by omega⟩
  obtain ⟨m, rfl⟩ : ∃ k : Nat, m = k := ⟨m.toNat, by omega⟩
  go_enter Try.func6, Try.ntmps6
  go_wp2_with fail
  refine (HAlive.out _).mono ?_
  rintro e w1 ⟨rfl, b1⟩
  have HB1 := Lib.hid b1
  have hz1 := b1.size
  clear b1
  go_wp2_with fail
  go_loopw [6] (fun v6 wr => ∃ i : Nat, v6 = .int .i64 i ∧ i ≤ n ∧ Hid (Own w1.heap.size wr w1.heap.size (stL m i 0)) ∧ Hid (Fine (stL m i 0)) ∧ Hid (Below w1.heap.size w1 wr)) (fun v6 _ => n - (Go.RowKit.intOf v6).toNat)
  case atStart => exact ⟨0, rfl, Nat.zero_le _, own_new w1 _ _ (Nat.le_refl _) (Below.refl _ _), fine_nil, (Below.refl _ _).alloc (Nat.le_refl _) _⟩
  case round =>
    obtain ⟨i, rfl, hi, HO, HF, HB⟩ := hrel
    obtain ⟨wo, hwo⟩ : ∃ wo : World, wr = wo := ⟨wr, rfl⟩
    subst wr
    by_cases hin : i < n
    · have j1 : (i : Int) < n := by omega
      have hi60 : i < 60 := by omega
      have HRE := Lib.hid (row_end (m := m) (i := i) (by omega))
      obtain ⟨W1, hW1⟩ : ∃ W1, wo.alloc (Obj.cells #[.int .u8 104, .int .u8 (by8 (65 + i / 10)).toNat, .int .u8 (by8 (48 + i % 10)).toNat] 5) = W1 := ⟨_, rfl⟩
      have hcv := bytes3 wo (by8 (65 + i / 10)) (by8 (48 + i % 10))
      rw [hW1] at hcv
      obtain ⟨W, hW⟩ : ∃ W, W1.alloc (Obj.cells #[.string ⟨#[104, 111, 115, 116]⟩, .string ⟨#[104, by8 (65 + i / 10), by8 (48 + i % 10)]⟩, .string ⟨#[109, 101, 116, 114, 105, 99]⟩, .string ⟨#[99, 112, 117]⟩] 58) = W := ⟨_, rfl⟩
      have hz : W1.heap.size = wo.heap.size + 1 := by rw [← hW1]; simp
      have hbW1 : Below wo.heap.size wo W1 := by rw [← hW1]; exact (Below.refl _ _).alloc (Nat.le_refl _) _
      have hbW : Below wo.heap.size wo W := by rw [← hW]; exact hbW1.alloc (by omega) _
      have hWx : W.heap[W1.heap.size]? = some (.cells #[.string ⟨#[104, 111, 115, 116]⟩, .string (hostL i), .string ⟨#[109, 101, 116, 114, 105, 99]⟩, .string ⟨#[99, 112, 117]⟩] 58 (0, 0)) := by rw [← hW]; exact Array.getElem?_push_size
      have HBW := Lib.hid hbW
      have HWX := Lib.hid hWx
      have HWL := Lib.hid (Array.getElem?_eq_some_iff.1 hWx).1
      have HOW := Lib.hid (own_span HO.out hbW)
      have HZZ := Lib.hid (And.intro hz (And.intro hbW.size HB.out.size))
      have HSL := Lib.hid (fun V (hs : Sep (fun k => w1.heap.size ≤ k ∧ k < wo.heap.size) W V) => labL_sees V W1.heap.size i ((hs.block _ HWL.out (by omega)).trans hWx))
      have e1 := by8_is (n := 65 + i / 10) (by omega)
      have e2 := by8_is (n := 48 + i % 10) (by omega)
      clear hbW1 hbW hWx hz HO
      generalize by8 (65 + i / 10) = b1 at e1 hcv hW hW1
      generalize by8 (48 + i % 10) = b2 at e2 hcv hW hW1
      have t1 : 65 + (i : Int) / 10 = b1.toNat := by omega
      have t2 : 48 + (i : Int) % 10 = b2.toNat := by omega
      have l1 := b1.toNat_lt
      have l2 := b2.toNat_lt
      clear e1 e2
      go_wp2
      clear hW hW1 hcv t1 t2 l1 l2
      go_loopw [8] (fun v8 wr => ∃ k : Nat, v8 = .int .i64 k ∧ k ≤ m ∧ Hid (St (Span w1.heap.size wo.heap.size W.heap.size wr) wr w1.heap.size (stL m i k)) ∧ Hid (Sep (fun k => w1.heap.size ≤ k ∧ k < wo.heap.size) W wr) ∧ Hid (Fine (stL m i k))) (fun v8 _ => m - (Go.RowKit.intOf v8).toNat)
      case atStart => exact ⟨0, rfl, Nat.zero_le _, HOW.out, Sep.refl _ _, HF.out⟩
      case round =>
        obtain ⟨k, rfl, hk, HSk, HPk, HFk⟩ := hrel
        by_cases hkm : k < m
        · have j2 : (k : Int) < m := by omega
          have HC := Lib.hid (put_span (w0 := W) (w := wr) w1.heap.size 2 2 (stL m i k) (some ⟨W1.heap.size, 0, none⟩) (labL i) k k HSk.out HPk.out rfl HZZ.out.2.1 HFk.out rfl (labL_small i) (HSL.out _ HPk.out))
          have HF2 := Lib.hid (fine_put (xs := stL m i k) (k : Int) (k : Int) HFk.out (labL_small i))
          rw [put_stL (m := m) hi60 (by omega)] at HC HF2
          by_cases h40 : 40 ≤ i
          · have j3 : (40 : Int) ≤ i := by omega
            rw [if_pos (.inl h40)] at HC
            go_wp2_with fail
            refine HC.out.mono ?_
            rintro e w4 ⟨rfl, s4, q4⟩
            have HS4 := Lib.hid s4
            have HQ4 := Lib.hid q4
            clear s4 q4
            go_wp2
            go_roundw
            case rel => exact ⟨k + 1, by go_num, by omega, HQ4, HS4, HF2⟩
            case measure => simp [Go.RowKit.intOf]; omega
          · have j3 : (i : Int) < 40 := by omega
            by_cases h25 : 25 ≤ k
            · have j4 : (25 : Int) ≤ k := by omega
              rw [if_pos (.inr h25)] at HC
              go_wp2_with fail
              refine HC.out.mono ?_
              rintro e w4 ⟨rfl, s4, q4⟩
              have HS4 := Lib.hid s4
              have HQ4 := Lib.hid q4
              clear s4 q4
              go_wp2
              go_roundw
              case rel => exact ⟨k + 1, by go_num, by omega, HQ4, HS4, HF2⟩
              case measure => simp [Go.RowKit.intOf]; omega
            · have j4 : (k : Int) < 25 := by omega
              rw [if_neg (by omega)] at HC
              go_wp2_with fail
              refine HC.out.mono ?_
              rintro e w4 ⟨rfl, s4, q4⟩
              have HS4 := Lib.hid s4
              have HQ4 := Lib.hid q4
              clear s4 q4
              go_wp2
              go_roundw
              case rel => exact ⟨k + 1, by go_num, by omega, HQ4, HS4, HF2⟩
              case measure => simp [Go.RowKit.intOf]; omega
        · obtain rfl : k = m := by omega
          rw [HRE.out] at HSk HFk
          go_wp2
          go_roundw
          case rel => exact ⟨i + 1, by go_num, by omega, span_own HSk.out (by have := HZZ.out; omega) (by have := HZZ.out; have := HPk.out.size; omega), HFk, HB.out.trans ((HBW.out.mono HB.out.size).trans (HPk.out.below (by have := HZZ.out; omega) fun k hk => hk.1))⟩
          case measure => simp [Go.RowKit.intOf]; omega
    · obtain rfl : i = n := by omega
      rw [stL_none] at HO HF
      have HBz := Lib.hid (HB1.out.trans (HB.out.mono hz1))
      have HAl := Lib.hid (all_any _ w1.heap.size _ wo HO.out HF.out)
      have HPt := Lib.hid (fun V (hb : Below wo.heap.size wo V) => points_any _ w1.heap.size _ V (HO.out.on hb) HF.out)
      have HLN := Lib.hid (base_len m i)
      rw [base_points] at HPt
      clear HO HF HB HB1 hi hin h1 h2 h3 h4 hz1
      by_cases h40 : 40 < i
      · have j3 : (40 : Int) < i := by omega
        have mn : ∀ (W : World) (ts : Array TypeId) (t : TypeId), (Builtin.min_ ts t #[.int .i64 (i : Int), .int .i64 40]).run Try.prog W = .ok (.int .i64 40) W := fun W ts t => by rw [run_min_int2, if_pos j3]
        rw [show min i 40 = 40 by omega] at HPt HLN
        by_cases h25 : 25 < m
        · have j4 : (25 : Int) < m := by omega
          have mm : ∀ (W : World) (ts : Array TypeId) (t : TypeId), (Builtin.min_ ts t #[.int .i64 (m : Int), .int .i64 25]).run Try.prog W = .ok (.int .i64 25) W := fun W ts t => by rw [run_min_int2, if_pos j4]
          rw [show min m 25 = 25 by omega] at HPt
          go_wp2_with fail
          refine HAl.out.mono ?_
          rintro e w5 ⟨⟨va, ua, rfl, aa⟩, b5⟩
          obtain ⟨oa, ca, rfl, x1, x2⟩ := aa.sees
          have HB5 := Lib.hid b5
          clear aa b5 x1 x2
          rw [HLN.out]
          go_wp2_with fail
          refine (HPt.out _ HB5.out).mono ?_
          rintro e w6 ⟨rfl, b6⟩
          go_wp2
          go_ret
          exact ⟨rfl, HBz.out.trans ((HB5.out.trans (b6.mono HB5.out.size)).mono HBz.out.size)⟩
        · have j4 : ¬ (25 : Int) < m := by omega
          have mm : ∀ (W : World) (ts : Array TypeId) (t : TypeId), (Builtin.min_ ts t #[.int .i64 (m : Int), .int .i64 25]).run Try.prog W = .ok (.int .i64 (m : Int)) W := fun W ts t => by rw [run_min_int2, if_neg j4]
          rw [show min m 25 = m by omega] at HPt
          have jw : IntKind.i64.wrap ((40 : Int) * (m : Int)) = 40 * (m : Int) := by rw [IntKind.wrap_i64]; omega
          go_wp2_with fail
          refine HAl.out.mono ?_
          rintro e w5 ⟨⟨va, ua, rfl, aa⟩, b5⟩
          obtain ⟨oa, ca, rfl, x1, x2⟩ := aa.sees
          have HB5 := Lib.hid b5
          clear aa b5 x1 x2
          rw [HLN.out]
          go_wp2_with fail
          refine (HPt.out _ HB5.out).mono ?_
          rintro e w6 ⟨rfl, b6⟩
          go_wp2
          go_ret
          exact ⟨rfl, HBz.out.trans ((HB5.out.trans (b6.mono HB5.out.size)).mono HBz.out.size)⟩
      · have j3 : ¬ (40 : Int) < i := by omega
        have mn : ∀ (W : World) (ts : Array TypeId) (t : TypeId), (Builtin.min_ ts t #[.int .i64 (i : Int), .int .i64 40]).run Try.prog W = .ok (.int .i64 (i : Int)) W := fun W ts t => by rw [run_min_int2, if_neg j3]
        rw [show min i 40 = i by omega] at HPt HLN
        by_cases h25 : 25 < m
        · have j4 : (25 : Int) < m := by omega
          have mm : ∀ (W : World) (ts : Array TypeId) (t : TypeId), (Builtin.min_ ts t #[.int .i64 (m : Int), .int .i64 25]).run Try.prog W = .ok (.int .i64 25) W := fun W ts t => by rw [run_min_int2, if_pos j4]
          rw [show min m 25 = 25 by omega] at HPt
          have jw : IntKind.i64.wrap ((i : Int) * 25) = (i : Int) * 25 := by rw [IntKind.wrap_i64]; omega
          go_wp2_with fail
          refine HAl.out.mono ?_
          rintro e w5 ⟨⟨va, ua, rfl, aa⟩, b5⟩
          obtain ⟨oa, ca, rfl, x1, x2⟩ := aa.sees
          have HB5 := Lib.hid b5
          clear aa b5 x1 x2
          rw [HLN.out]
          go_wp2_with fail
          refine (HPt.out _ HB5.out).mono ?_
          rintro e w6 ⟨rfl, b6⟩
          go_wp2
          go_ret
          exact ⟨rfl, HBz.out.trans ((HB5.out.trans (b6.mono HB5.out.size)).mono HBz.out.size)⟩
        · have j4 : ¬ (25 : Int) < m := by omega
          have mm : ∀ (W : World) (ts : Array TypeId) (t : TypeId), (Builtin.min_ ts t #[.int .i64 (m : Int), .int .i64 25]).run Try.prog W = .ok (.int .i64 (m : Int)) W := fun W ts t => by rw [run_min_int2, if_neg j4]
          rw [show min m 25 = m by omega] at HPt
          have hm2 : i * m ≤ 40 * 25 := Nat.mul_le_mul (by omega) (by omega)
          obtain ⟨q, hq⟩ : ∃ q, i * m = q := ⟨_, rfl⟩
          rw [hq] at hm2 HPt
          have hqi : (i : Int) * (m : Int) = (q : Int) := by rw [← hq]; simp
          have jw : IntKind.i64.wrap ((i : Int) * (m : Int)) = (q : Int) := by rw [hqi, IntKind.wrap_i64]; omega
          go_wp2_with fail
          refine HAl.out.mono ?_
          rintro e w5 ⟨⟨va, ua, rfl, aa⟩, b5⟩
          obtain ⟨oa, ca, rfl, x1, x2⟩ := aa.sees
          have HB5 := Lib.hid b5
          clear aa b5 x1 x2
          rw [HLN.out]
          go_wp2_with fail
          refine (HPt.out _ HB5.out).mono ?_
          rintro e w6 ⟨rfl, b6⟩
          go_wp2
          go_ret
          exact ⟨rfl, HBz.out.trans ((HB5.out.trans (b6.mono HB5.out.size)).mono HBz.out.size)⟩
end Go.Proofs.Ytleldfhfdgjfmaa.Sto
end
