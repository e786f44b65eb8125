/- The library's slices.Chunk at rows, eight by eight: its contract. -/
import Derived.RangeFuncNested
import Derived.RangeFuncBound
import Derived.RangeFuncCalls
import Derived.RangeFuncLeaves
import Derived.RangeFuncBox
import Derived.RangeFuncWrites
import Derived.Shelf.Abstract
import Derived.Shelf.RegionOpen
import Derived.WalkKit
import Derived.OwnWalkIn
import Derived.TacticsInMore
import Derived.LoopNIn
import Derived.LoopIn
import Derived.BigRegionIn
import Derived.Lib.Hide
import Derived.Test.YtldlfmeppcdbbaaProg
namespace Go.Proofs.Ytldlfmeppcdbbaa.Run
open Go.RowKit Go.Shelf

attribute [local go_sem] Oper.semAt_some

/-- The chunk that begins with element 8 * k. -/
def chunkV (b off len k : Nat) : Array Value := #[.slice (some ⟨b, off + 8 * k * 2, none⟩) (min 8 (len - 8 * k)) (min 8 (len - 8 * k))]
set_option maxRecDepth 100000 in
set_option maxHeartbeats 2000000 in
theorem chunk1_in (F : Fence) (n : Nat) (h46 : F.fn 46) (hro : F.round = none) (hn : 1 ≤ n) (l Bs Bn b off len cap : Nat) (o : Option Addr) (ho : 0 < len → o = some ⟨b, off, none⟩) (hlen : len ≤ 1000000) (hcap : len ≤ cap) (Kp : World → World → Prop) (hKt : ∀ {A B C : World}, Kp A B → Kp B C → Kp A C) (hK0 : ∀ A, Kp A A)
    (hKs : ∀ A B v, A.cell? ⟨Bs, 0, none⟩ = some v → Kp A B → B.cell? ⟨Bs, 0, none⟩ = some v) (hKn : ∀ A B v, A.cell? ⟨Bn, 0, none⟩ = some v → Kp A B → B.cell? ⟨Bn, 0, none⟩ = some v) (hKd : ∀ A, Kp A A.drew)
    (J Jx : List Nat → World → Prop) (hJd : ∀ pre A, J pre A → J pre A.drew)
    (hY : ∀ pre x W, J pre W → pre.length < (len + 7) / 8 → YieldAt F (n - 1) Try.prog l (chunkV b off len x) W fun e W' =>
      (e = .returned (.bool true) ∧ J (pre ++ [x]) W' ∧ Kp W W') ∨ (e = .returned (.bool false) ∧ Jx (pre ++ [x]) W'))
    (W : World) (hBs : W.cell? ⟨Bs, 0, none⟩ = some (.slice o len cap)) (hBn : W.cell? ⟨Bn, 0, none⟩ = some (.int .i64 8)) (h0 : J [] W) :
    CallsIn F n Try.prog 46 #[.func (.yield l) #[] #[], .pointer (some ⟨Bs, 0, none⟩), .pointer (some ⟨Bn, 0, none⟩)] W fun e W' => (∃ v, e = .returned v) ∧
      ((∃ ys, ys = List.range ((len + 7) / 8) ∧ J ys W') ∨ (∃ pre, True ∧ Jx pre W')) := by
  refine callsIn_of_wp Try.func46 rfl h46 ?_ hro
  simp only [Try.ntmps46, List.size_toArray, List.length_cons, List.length_nil, Nat.reduceAdd, Nat.reduceSub, Array.replicate_succ, Array.replicate_zero, List.push_toArray, List.append_toArray, List.nil_append, List.cons_append]
  gi_wp2
  gi_loopw [4, 5] (fun v4 _ wr => ∃ k : Nat, v4 = .int .i64 ((8 * k : Nat) : Int) ∧ 8 * k ≤ len + 7 ∧ J (List.range k) wr ∧ Kp W wr)
    (fun v4 _ _ => len + 7 - (intOf v4).toNat)
  case atStart => exact ⟨0, rfl, Nat.zero_le _, h0, hK0 _⟩
  case round =>
    obtain ⟨k, rfl, hk, hJs, hKW⟩ := hrel
    have cs := hKs _ _ _ hBs hKW
    have cn := hKn _ _ _ hBn hKW
    by_cases hlt : 8 * k < len
    · have hoo := ho (by omega)
      subst hoo
      obtain ⟨i, hi⟩ : ∃ i, 8 * k = i := ⟨_, rfl⟩
      rw [hi]
      obtain ⟨d, hd⟩ : ∃ d, len - i = d := ⟨_, rfl⟩
      obtain ⟨m, hm⟩ : ∃ m, min 8 d = m := ⟨_, rfl⟩
      have hJd1 := hJd _ _ hJs
      obtain ⟨fn, tmps, assign, body, hy, hR⟩ := hY _ k wr.drew hJd1 (by rw [List.length_range]; omega)
      simp only [chunkV, hi, hd, hm] at hy hR
      have mn : ∀ (W : World) (ts : Array TypeId) (t : TypeId), (Builtin.min_ ts t #[.int .i64 8, .int .i64 (d : Int)]).run Try.prog W = .ok (.int .i64 (m : Int)) W := fun W ts t => by rw [run_min_int2]; congr 2; split <;> omega
      have j1 : (i : Int) < len := by omega
      have j2 : (i : Int) + m ≤ len := by omega
      have j3 : (0 : Int) ≤ i := by omega
      have j4 : (i : Int) ≤ i + m := by omega
      have j5 : (i : Int) ≤ len := by omega
      have j7 : (i : Int) + m ≤ cap := by omega
      have hm0 : ¬ m = 0 := by omega
      have hnc : ¬ cap = i := by omega
      have HM := Go.Lib.hid hm
      have HD := Go.Lib.hid hd
      have HI := Go.Lib.hid hi
      clear hm hi hBs h0 hJs hJd1
      have j6 : (len : Int) ≤ cap := by omega
      gi_wp2
      gi_region
      gi_wp2
      all_goals
        refine hR.mono ?_
        rintro e W3 (⟨rfl, hJ3, hk3⟩ | ⟨rfl, hJx3⟩)
        · have hK3 := hKt hKW (hKt (hKd wr) hk3)
          have cn3 := hKn _ _ _ cn (hKt (hKd wr) hk3)
          gi_wp2
          go_roundw
          case rel => exact ⟨k + 1, by have := HI.out; go_num, by omega, by rw [List.range_succ]; exact hJ3, hK3⟩
          case measure => have := HI.out; simp [intOf]; omega
        · gi_wp2
          refine bodyPost_ret (results_none rfl _ _ _) rfl ?_
          exact ⟨⟨_, rfl⟩, .inr ⟨_, trivial, hJx3⟩⟩
    · have hkl : (len + 7) / 8 = k := by omega
      have j1 : (len : Int) ≤ ((8 * k : Nat) : Int) := by omega
      obtain ⟨i, hi⟩ : ∃ i, 8 * k = i := ⟨_, rfl⟩
      rw [hi] at j1 hlt ⊢
      clear hi hBs h0
      gi_wp2
      go_end0
      exact ⟨⟨_, rfl⟩, .inl ⟨_, by rw [hkl], hJs⟩⟩
end Go.Proofs.Ytldlfmeppcdbbaa.Run
