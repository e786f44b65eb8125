/- The document's numbers as bytes. -/
import Derived.Test.YtldlfmeppcdbbaaCf
import Derived.Deep.OwnRows
import Derived.OwnWalk
import Derived.Laws.IdiomStrings
import Derived.Laws.BitsLemmas
import Derived.Deep.RegionHeld3
import Derived.Deep.DeepFit
namespace Go.Proofs.Ytldlfmeppcdbbaa.Crc
open Go.RowKit Go.Lib

theorem addM (b j : Nat) : (⟨b, 0, none⟩ : Addr).add j = ⟨b, j, none⟩ := by
  unfold Addr.add
  split
  · next h => subst h; rfl
  · rw [Nat.zero_add]
theorem infoM : (Try.prog.info? 5).map (fun i => (i.zero, i.size, i.bytes)) = some (some (.int .u8 0), 1, 1) := by kernel_rfl
theorem and255 (a : Nat) (h : a < 4611686018427387904) : bits .and .i64 (a : Int) 255 = ((a % 256 : Nat) : Int) := by
  have h := bits_mask .i64 62 (by decide) wraps_i64 8 (by decide) (a : Int) (by omega) (by omega)
  rw [show (2 : Int) ^ 8 - 1 = 255 from rfl] at h
  rw [h]; omega
/-- The byte at a place, while a number is written from its end. -/
def highF (v n j : Nat) (i : Nat) : Value := if n - j ≤ i then .int .u8 ((v / 256 ^ (n - 1 - i) % 256 : Nat) : Int) else .int .u8 0
theorem numB_at : ∀ (n v i : Nat) (h : i < n), (numB n v)[i]'(by rw [numB_len]; exact h) = UInt8.ofNat (v / 256 ^ (n - 1 - i))
  | n + 1, v, 0, _ => by simp [numB]
  | n + 1, v, i + 1, h => by
    simp only [numB, List.getElem_cons_succ]
    rw [numB_at n v i (by omega)]
    congr 3; omega

set_option maxHeartbeats 4000000 in
set_option maxRecDepth 100000 in
theorem high_any (v n : Nat) (w : World) (hv : v < 4611686018427387904) (hn1 : 1 ≤ n) (hn : n ≤ 7) :
    Calls Try.prog 38 #[.int .i64 v, .int .i64 n] w fun e w' => e = .returned (.string ⟨(numB n v).toArray⟩) ∧ Below w.heap.size w w' := by
  obtain ⟨i0, hi, hz0, hz1, hz2⟩ := info_parts infoM
  have hn' : (0 : Int) ≤ n := by omega
  have hconv : ∀ W : World, W.rowIs w.heap.size 5 n (highF v n n) → (convert 36 9 (.slice (some ⟨w.heap.size, 0, none⟩) n n)).run Try.prog W = .ok (.string ⟨(numB n v).toArray⟩) W := fun W hr => by
    have h := run_convert_bytes_back (P := Try.prog) W 36 9 5 ⟨w.heap.size, 0, none⟩ n (numB n v) Try.underlying36 Try.underlying5 Try.underlying9 (fun j hj => by
      rw [numB_len] at hj
      rw [addM, hr.cell hj, numB_at n v j hj, u8]
      unfold highF
      rw [if_pos (by omega)])
    rwa [numB_len] at h
  go_enter Try.func38, Try.ntmps38
  go_wp2_with (first | (at_make; refine wpList_make_row _ rfl _ _ 36 rfl 5 i0 (.int .u8 0) Try.underlying36 hi hz0 hz1 rfl .i64 .i64 n rfl rfl (by rw [hz2]; omega) (by omega) ?_) | fail)
  go_loopw [0, 6] (fun v0 v6 wr => ∃ j : Nat, v0 = .int .i64 (v / 256 ^ j : Nat) ∧ v6 = .int .i64 ((n : Int) - 1 - j) ∧ j ≤ n ∧ wr.rowIs w.heap.size 5 n (highF v n j) ∧ Hid (Below w.heap.size w wr)) (fun _ v6 _ => (Go.RowKit.intOf v6 + 1).toNat)
  case atStart =>
    refine ⟨0, by rw [Nat.pow_zero, Nat.div_one], by simp, Nat.zero_le _, (World.rowIs_made w (.int .u8 0) n 5).congr (fun i hi => ?_), (Below.refl _ _).alloc (Nat.le_refl _) _⟩
    unfold highF
    rw [if_neg (by omega)]
  case round =>
    obtain ⟨j, rfl, rfl, hj, hr, HB⟩ := hrel
    by_cases hjn : j < n
    · obtain ⟨i, hin⟩ : ∃ i, n = j + 1 + i := ⟨n - 1 - j, by omega⟩
      have e1 : (n : Int) - 1 - j = i := by omega
      rw [e1]
      have hil : i < n := by omega
      have c0 := hr.cell hil
      have f0 := hr.frozen i
      obtain ⟨a, ha⟩ : ∃ a, v / 256 ^ j = a := ⟨_, rfl⟩
      have hal : a < 4611686018427387904 := by rw [← ha]; exact Nat.lt_of_le_of_lt (Nat.div_le_self _ _) hv
      obtain ⟨m, hm⟩ : ∃ m, a % 256 = m := ⟨_, rfl⟩
      have hand : bits .and .i64 (a : Int) 255 = (m : Int) := by rw [and255 a hal, hm]
      have hml : m < 256 := by omega
      have HQ := Lib.hid (show a / 256 = v / 256 ^ (j + 1) by rw [Nat.pow_succ, ← Nat.div_div_eq_div_mul, ha])
      have HR := Lib.hid (show (wr.setCell ⟨w.heap.size, i, none⟩ (.int .u8 (m : Int))).rowIs w.heap.size 5 n (highF v n (j + 1)) from (hr.set i (.int .u8 (m : Int))).congr (fun k hk => by
        unfold highF
        by_cases hki : k = i
        · subst hki
          rw [if_pos rfl, if_pos (by omega), show n - 1 - k = j by omega, ha, hm]
        · rw [if_neg hki]
          by_cases hk2 : n - j ≤ k
          · rw [if_pos hk2, if_pos (by omega)]
          · rw [if_neg hk2, if_neg (by omega)]))
      have HB2 := Lib.hid (HB.out.setCell (p := ⟨w.heap.size, i, none⟩) (Nat.le_refl _) (.int .u8 (m : Int)))
      have j1 : (i : Int) < n := by omega
      have j0 : (0 : Int) ≤ i := by omega
      rw [ha]
      clear hr HB hm ha hjn e1
      go_wp2
      go_roundw
      case rel => exact ⟨j + 1, by rw [← HQ.out]; rfl, by congr 1; omega, by omega, HR.out, HB2⟩
      case measure => simp [Go.RowKit.intOf]
    · obtain rfl : j = n := by omega
      have e1 : (j : Int) - 1 - j = -1 := by omega
      rw [e1]
      have hc := hconv wr hr
      go_wp2
      go_ret
      exact ⟨rfl, HB.out⟩

set_option maxHeartbeats 4000000 in
set_option maxRecDepth 100000 in
theorem dvalue_is (s : ByteArray) (w : World) (hs : s.size ≤ 7) :
    Calls Try.prog 41 #[.string s] w fun e w' => e = .returned (.int .i64 (valA 0 s.data.toList : Nat)) ∧ w' = w := by
  go_enter Try.func41, Try.ntmps41
  go_wp2
  go_loopw [3, 4] (fun v3 v4 wr => ∃ k : Nat, v4 = .int .i64 k ∧ k ≤ s.size ∧ v3 = .int .i64 (valA 0 (s.data.toList.take k) : Nat) ∧ wr = w) (fun _ v4 _ => s.size - (Go.RowKit.intOf v4).toNat)
  case atStart => exact ⟨0, rfl, Nat.zero_le _, rfl, rfl⟩
  case round =>
    obtain ⟨k, rfl, hk, rfl, rfl⟩ := hrel
    have hsl := Lib.size_eq s
    by_cases hkm : k < s.size
    · have j1 : (k : Int) < s.size := by omega
      have hkt : k < s.data.toList.length := by omega
      have hv := valA_lt (s.data.toList.take k) 0
      rw [Nat.zero_add, Nat.one_mul, List.length_take, Nat.min_eq_left (by omega)] at hv
      have hp : 256 ^ k ≤ 256 ^ 6 := Nat.pow_le_pow_right (by decide) (by omega)
      obtain ⟨v, hvv⟩ : ∃ v, valA 0 (s.data.toList.take k) = v := ⟨_, rfl⟩
      have HV := Lib.hid (show valA 0 (s.data.toList.take (k + 1)) = v * 256 + (s.data.toList[k]).toNat by
        rw [List.take_succ_eq_append_getElem hkt, valA_snoc, hvv])
      rw [hvv] at hv ⊢
      have hv6 : v < 281474976710656 := Nat.lt_of_lt_of_le hv hp
      obtain ⟨c, hc⟩ : ∃ c : Nat, (s[k]'hkm).toNat = c := ⟨_, rfl⟩
      have hc2 : c < 256 := by rw [← hc]; exact (s[k]'hkm).toNat_lt
      rw [show s.data.toList[k] = s[k]'hkm by rfl, hc] at HV
      clear hv hp hvv hsl
      go_wp2
      go_roundw
      case rel => exact ⟨k + 1, by go_num, by omega, by rw [HV.out]; congr 1, trivial⟩
      case measure => simp [Go.RowKit.intOf]; omega
    · have j1 : (s.size : Int) ≤ k := by omega
      have HV := Lib.hid (show (valA 0 (s.data.toList.take k) : Nat) = valA 0 s.data.toList by rw [List.take_of_length_le (by omega)])
      rw [HV.out]
      clear hsl
      go_wp2
      go_ret
      exact ⟨rfl, rfl⟩
end Go.Proofs.Ytldlfmeppcdbbaa.Crc
