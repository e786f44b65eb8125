/- The document's sums and frames. -/
import Derived.Test.YtldlfmeppcdbbaaCm
import Derived.BigQuiet
import Derived.Deep.QuietTactic
namespace Go.Proofs.Ytldlfmeppcdbbaa.Crc
open Go.RowKit Go.Lib

set_option maxHeartbeats 2000000 in
set_option maxRecDepth 100000 in
theorem dsum_is (s : ByteArray) (w : World) (hs : s.size ≤ 1099511627776) :
    Calls Try.prog 42 #[.string s] w fun e w' => e = .returned (.int .u32 (crcN s.data.toList : Nat)) ∧ w' = w := by
  go_enter Try.func42, Try.ntmps42
  go_wp2
  go_loopw [3, 4] (fun v3 v4 wr => ∃ k : Nat, v4 = .int .i64 k ∧ k ≤ s.size ∧ v3 = .int .u32 (crcN (s.data.toList.take k) : Nat) ∧ wr = w) (fun _ v4 _ => s.size - (Go.RowKit.intOf v4).toNat)
  case atStart => exact ⟨0, rfl, Nat.zero_le _, rfl, rfl⟩
  case round =>
    obtain ⟨k, rfl, hk, rfl, rfl⟩ := hrel
    have hsl := Lib.size_eq s
    by_cases hkm : k < s.size
    · have j1 : (k : Int) < s.size := by omega
      have hkt : k < s.data.toList.length := by omega
      obtain ⟨X, hX⟩ : ∃ X, crc (s.data.toList.take k) = X := ⟨_, rfl⟩
      obtain ⟨c, hc⟩ : ∃ c, s.data.toList[k] = c := ⟨_, rfl⟩
      have HV := Lib.hid (show crcN (s.data.toList.take (k + 1)) = (run X ((byteBits c).take 8)).toNat by
        rw [List.take_succ_eq_append_getElem hkt, bits_whole]
        unfold crcN
        rw [crc_snoc, hX, hc])
      have hA : crcN (s.data.toList.take k) = (run X ((byteBits c).take 0)).toNat := by unfold crcN; rw [hX]; rfl
      rw [hA]
      have hcs : (s[k]'hkm).toNat = c.toNat := by rw [← hc]; rfl
      obtain ⟨cn, hcn⟩ : ∃ cn, c.toNat = cn := ⟨_, rfl⟩
      rw [hcn] at hcs
      have hcl : cn < 256 := by rw [← hcn]; exact c.toNat_lt
      clear hX hc hA hsl hkt
      go_wp2_with fail
      go_loopw [3, 5] (fun v3 v5 wi => ∃ j : Nat, v5 = .int .i64 (7 - (j : Int)) ∧ j ≤ 8 ∧ v3 = .int .u32 ((run X ((byteBits c).take j)).toNat : Nat) ∧ wi = wr) (fun _ v5 _ => (Go.RowKit.intOf v5 + 1).toNat)
      case atStart => exact ⟨0, rfl, by omega, rfl, rfl⟩
      case round =>
        obtain ⟨j, rfl, hj, rfl, rfl⟩ := hrel
        by_cases hj8 : j < 8
        · obtain ⟨i, hi⟩ : ∃ i, j + i = 7 := ⟨7 - j, by omega⟩
          have e1 : 7 - (j : Int) = i := by omega
          rw [e1]
          have HS := Lib.hid (bits_snoc X c j hj8)
          have hb := bit_at c i
          rw [show 7 - j = i by omega] at HS
          have hp : ((cn / 2 ^ i : Nat) : Int) = (cn : Int) / 2 ^ i := by rw [Int.natCast_ediv, Int.natCast_pow]; rfl
          rw [hcn, hp] at hb
          obtain ⟨y, hy⟩ : ∃ y, run X ((byteBits c).take j) = y := ⟨_, rfl⟩
          rw [hy] at HS ⊢
          rw [hcn] at HS
          have h1 := shr_u32 y
          have h2 := shl_u32 y
          have h3 : bits .xor .u32 (((y <<< 1).toNat : Nat) : Int) 4104977171 = (((y <<< 1) ^^^ poly).toNat : Int) := xor_u32 (y <<< 1) poly
          have hx := xor_bit y.msb (cn.testBit i)
          have HI := Lib.hid (step_in y (cn.testBit i))
          have HO := Lib.hid (step_out y (cn.testBit i))
          obtain ⟨a, ha⟩ : ∃ a : Nat, y.toNat = a := ⟨_, rfl⟩
          obtain ⟨b, hbb⟩ : ∃ b : Nat, (y <<< 1).toNat = b := ⟨_, rfl⟩
          obtain ⟨d, hd⟩ : ∃ d : Nat, ((y <<< 1) ^^^ poly).toNat = d := ⟨_, rfl⟩
          rw [ha] at h1 h2 ⊢
          rw [hbb] at h2 h3
          rw [hd] at h3
          have HB := Lib.hid hbb
          have HD := Lib.hid hd
          clear ha hbb hd hy hp
          obtain ⟨t, ht⟩ : ∃ t, cn.testBit i = t := ⟨_, rfl⟩
          obtain ⟨mb, hmb⟩ : ∃ mb, y.msb = mb := ⟨_, rfl⟩
          rw [ht] at hb hx HI HO HS
          rw [hmb] at h1 hx HI HO
          clear ht hmb
          have j0 : (0 : Int) ≤ i := by omega
          have j7 : (i : Int) ≤ 7 := by omega
          have HR := Lib.hid (show (i : Int) - 1 = 7 - ((j + 1 : Nat) : Int) by omega)
          obtain ⟨mn, hmn⟩ : ∃ mn : Nat, mb.toNat = mn := ⟨_, rfl⟩
          obtain ⟨tn, htn⟩ : ∃ tn : Nat, t.toNat = tn := ⟨_, rfl⟩
          rw [hmn] at h1 hx
          rw [htn] at hb hx
          have htn2 : tn ≤ 1 := by rw [← htn]; cases t <;> decide
          clear e1 hi htn hmn
          cases hout : (mb ^^ t) with
          | true =>
            rw [hout] at hx
            have HT := Lib.hid (HS.out.trans (HI.out hout))
            simp only [Bool.toNat_true] at hx
            clear hout HS HI HO
            go_wp2
            go_roundw
            case rel => exact ⟨j + 1, by rw [HR.out], by omega, by rw [HT.out, HD.out], trivial⟩
            case measure => simp [Go.RowKit.intOf]
          | false =>
            rw [hout] at hx
            have HT := Lib.hid (HS.out.trans (HO.out hout))
            simp only [Bool.toNat_false] at hx
            clear hout HS HI HO h3
            go_wp2
            go_roundw
            case rel => exact ⟨j + 1, by rw [HR.out], by omega, by rw [HT.out, HB.out], trivial⟩
            case measure => simp [Go.RowKit.intOf]
        · obtain rfl : j = 8 := by omega
          rw [show 7 - ((8 : Nat) : Int) = -1 from rfl]
          go_wp2
          go_roundw
          case rel => exact ⟨k + 1, by go_num, by omega, by rw [HV.out], trivial⟩
          case measure => simp [Go.RowKit.intOf]; omega
    · have j1 : (s.size : Int) ≤ k := by omega
      have HV := Lib.hid (show crcN (s.data.toList.take k) = crcN s.data.toList by rw [List.take_of_length_le (by omega)])
      rw [HV.out]
      clear hsl
      go_wp2
      go_ret
      exact ⟨rfl, rfl⟩
end Go.Proofs.Ytldlfmeppcdbbaa.Crc
