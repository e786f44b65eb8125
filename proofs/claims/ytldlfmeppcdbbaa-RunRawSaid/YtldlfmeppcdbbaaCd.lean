/- Walks: the sum of bytes, and the bytes that tell it. -/
import Derived.Test.YtldlfmeppcdbbaaCc
import Derived.Test.YtldlfmeppcdbbaaShelf
import Derived.Laws.BitsLemmas
import Derived.Laws.IdiomStrings
namespace Go.Proofs.Ytldlfmeppcdbbaa.Crc
open Go.RowKit Go.Lib

theorem clone_any (s : ByteArray) (w : World) (hs : s.size ≤ 281474976710656) :
    Calls Try.prog 65 #[.string s] w fun e w' => e = .returned (.string s) ∧ Below w.heap.size w w' := by
  go_enter Try.func65, Try.ntmps65
  go_wp2_with (go_at_call 72; refine (Try.stringslite_Clone _ _ hs).mono ?_; rintro e w1 ⟨rfl, b1⟩)
  go_ret
  exact ⟨rfl, b1⟩

set_option maxHeartbeats 1000000 in
set_option maxRecDepth 100000 in
theorem shift_any (x : BitVec 32) (w : World) :
    Calls Try.prog 73 #[.int .u32 (x.toNat : Nat)] w fun e w' => e = .returned (.int .u32 ((run x (List.replicate 8 false)).toNat : Nat)) ∧ w' = w := by
  go_enter Try.func73, Try.ntmps73
  go_wp2
  go_loopw [0, 4] (fun v0 v4 wr => ∃ j : Nat, v4 = .int .i64 j ∧ j ≤ 8 ∧ v0 = .int .u32 ((run x (List.replicate j false)).toNat : Nat) ∧ wr = w) (fun _ v4 _ => 8 - (Go.RowKit.intOf v4).toNat)
  case atStart => exact ⟨0, rfl, by omega, rfl, rfl⟩
  case round =>
    obtain ⟨j, rfl, hj, rfl, rfl⟩ := hrel
    by_cases hk : j < 8
    · have j1 : (j : Int) < 8 := by omega
      have HV := Lib.hid (zeros_snoc x j)
      obtain ⟨y, hy⟩ : ∃ y, run x (List.replicate j false) = y := ⟨_, rfl⟩
      rw [hy] at HV ⊢
      clear hy
      have h1 := shr_u32 y
      have h2 := shl_u32 y
      have h3 : bits .xor .u32 (((y <<< 1).toNat : Nat) : Int) 4104977171 = (((y <<< 1) ^^^ poly).toNat : Int) := xor_u32 (y <<< 1) poly
      obtain ⟨a, ha⟩ : ∃ a : Nat, y.toNat = a := ⟨_, rfl⟩
      obtain ⟨b, hb⟩ : ∃ b : Nat, (y <<< 1).toNat = b := ⟨_, rfl⟩
      obtain ⟨c, hc⟩ : ∃ c : Nat, ((y <<< 1) ^^^ poly).toNat = c := ⟨_, rfl⟩
      rw [ha] at h1 h2 ⊢
      rw [hb] at h2 h3
      rw [hc] at h3
      have HB := Lib.hid hb
      have HC := Lib.hid hc
      clear ha hb hc
      cases hm : y.msb with
      | true =>
        have HW := Lib.hid (HV.out.trans (step_in y false (by rw [hm]; rfl)))
        rw [hm] at h1
        simp only [Bool.toNat_true] at h1
        clear HV hm
        go_wp2
        go_roundw
        case rel => exact ⟨j + 1, by go_num, by omega, by rw [HW.out, HC.out], trivial⟩
        case measure => simp [Go.RowKit.intOf]; omega
      | false =>
        have HW := Lib.hid (HV.out.trans (step_out y false (by rw [hm]; rfl)))
        rw [hm] at h1
        simp only [Bool.toNat_false] at h1
        clear HV hm h3
        go_wp2
        go_roundw
        case rel => exact ⟨j + 1, by go_num, by omega, by rw [HW.out, HB.out], trivial⟩
        case measure => simp [Go.RowKit.intOf]; omega
    · obtain rfl : j = 8 := by omega
      go_wp2
      go_ret
      exact ⟨rfl, rfl⟩

set_option maxHeartbeats 1000000 in
set_option maxRecDepth 100000 in
theorem of_is (s : ByteArray) (w : World) (hs : s.size ≤ 1099511627776) :
    Calls Try.prog 66 #[.string s] w fun e w' => e = .returned (.int .u32 (crcN s.data.toList : Nat)) ∧ w' = w := by
  go_enter Try.func66, Try.ntmps66
  go_wp2
  go_loopw [3, 7] (fun v3 v7 wr => ∃ k : Nat, v7 = .int .i64 k ∧ k ≤ s.size ∧ v3 = .int .u32 (crcN (s.data.toList.take k) : Nat) ∧ wr = w) (fun _ v7 _ => s.size - (Go.RowKit.intOf v7).toNat)
  case atStart => exact ⟨0, rfl, Nat.zero_le _, rfl, rfl⟩
  case round =>
    obtain ⟨k, rfl, hk, rfl, rfl⟩ := hrel
    have hsl := Lib.size_eq s
    by_cases hkm : k < s.size
    · have j1 : (k : Int) < s.size := by omega
      have hkt : k < s.data.toList.length := by omega
      have HV := Lib.hid (show crcN (s.data.toList.take (k + 1)) = (run (crc (s.data.toList.take k) ^^^ topB (s.data.toList[k])) (List.replicate 8 false)).toNat by
        rw [List.take_succ_eq_append_getElem hkt, run_byte]
        unfold crcN
        rw [crc_snoc])
      have HS := Lib.hid (fun W => shift_any (crc (s.data.toList.take k) ^^^ topB (s.data.toList[k])) W)
      have h1 := topB_nat (s.data.toList[k])
      have h2 := xor_u32 (crc (s.data.toList.take k)) (topB (s.data.toList[k]))
      obtain ⟨r, hr⟩ : ∃ r, (run (crc (s.data.toList.take k) ^^^ topB (s.data.toList[k])) (List.replicate 8 false)).toNat = r := ⟨_, rfl⟩
      obtain ⟨a, ha⟩ : ∃ a, (crc (s.data.toList.take k)).toNat = a := ⟨_, rfl⟩
      obtain ⟨t, ht⟩ : ∃ t, (topB (s.data.toList[k])).toNat = t := ⟨_, rfl⟩
      obtain ⟨d, hd⟩ : ∃ d, (crc (s.data.toList.take k) ^^^ topB (s.data.toList[k])).toNat = d := ⟨_, rfl⟩
      rw [show crcN (s.data.toList.take k) = a from ha]
      rw [hr, hd] at HS
      rw [hr] at HV
      rw [ha, ht, hd] at h2
      rw [ht] at h1
      have hcl : (s.data.toList[k]).toNat < 256 := (s.data.toList[k]).toNat_lt
      obtain ⟨c, hc⟩ : ∃ c : Nat, (s[k]'hkm).toNat = c := ⟨_, rfl⟩
      rw [show s.data.toList[k] = s[k]'hkm by rfl, hc] at h1 hcl
      have h3 : IntKind.u32.wrap ((c : Int) * 16777216) = t := by rw [IntKind.wrap_u32]; omega
      clear hr ha ht hd hsl h1
      go_wp2_with fail
      refine (HS.out _).mono ?_
      rintro e w1 ⟨rfl, rfl⟩
      go_wp2
      go_roundw
      case rel => exact ⟨k + 1, by go_num, by omega, by rw [HV.out], trivial⟩
      case measure => simp [Go.RowKit.intOf]; omega
    · have j1 : (s.size : Int) ≤ k := by omega
      have HV := Lib.hid (show crcN (s.data.toList.take k) = crcN s.data.toList by rw [List.take_of_length_le (by omega)])
      rw [HV.out]
      clear hsl
      go_wp2
      go_ret
      exact ⟨rfl, rfl⟩

/-- The bytes that tell a number: as a text. -/
def numS (n v : Nat) : ByteArray := ⟨(numB n v).toArray⟩
theorem numS_size (n v : Nat) : (numS n v).size = n := by simp [numS, ByteArray.size, numB_len]
theorem numS_data (n v : Nat) : (numS n v).data.toList = numB n v := by simp [numS]
/-- The bytes that tell a sum. -/
def sumS (l : List UInt8) : ByteArray := numS 4 (crcN l)

set_option maxHeartbeats 1000000 in
set_option maxRecDepth 100000 in
theorem sum_any (s : ByteArray) (w : World) (hs : s.size ≤ 1099511627776) :
    Calls Try.prog 54 #[.string s] w fun e w' => e = .returned (.string (sumS s.data.toList)) ∧ Below w.heap.size w w' := by
  have HO := Lib.hid (fun W => of_is s W hs)
  have hl := crcN_lt s.data.toList
  have HX := Lib.hid (show sumS s.data.toList = numS 4 (crcN s.data.toList) from rfl)
  generalize crcN s.data.toList = v at HO hl HX ⊢
  rw [HX.out]
  obtain ⟨b1, e1⟩ : ∃ b, UInt8.ofNat (v / 16777216) = b := ⟨_, rfl⟩
  obtain ⟨b2, e2⟩ : ∃ b, UInt8.ofNat (v / 65536) = b := ⟨_, rfl⟩
  obtain ⟨b3, e3⟩ : ∃ b, UInt8.ofNat (v / 256) = b := ⟨_, rfl⟩
  obtain ⟨b4, e4⟩ : ∃ b, UInt8.ofNat v = b := ⟨_, rfl⟩
  have HN := Lib.hid (show numS 4 v = ⟨#[b1, b2, b3, b4]⟩ by
    rw [← e1, ← e2, ← e3, ← e4]; simp [numS, numB])
  rw [HN.out]
  have t1 : (v : Int) / 16777216 = b1.toNat := by rw [← e1, u8]; omega
  have t2 : (v : Int) / 65536 % 256 = b2.toNat := by rw [← e2, u8]; omega
  have t3 : (v : Int) / 256 % 256 = b3.toNat := by rw [← e3, u8]; omega
  have t4 : (v : Int) % 256 = b4.toNat := by rw [← e4, u8]; omega
  have l1 := b1.toNat_lt
  have l2 := b2.toNat_lt
  have l3 := b3.toNat_lt
  have l4 := b4.toNat_lt
  clear e1 e2 e3 e4 hs
  have hcv : ∀ W : World, (convert 36 9 (.slice (some ⟨W.heap.size, 0, none⟩) 4 4)).run Try.prog (W.alloc (Obj.cells #[.int .u8 b1.toNat, .int .u8 b2.toNat, .int .u8 b3.toNat, .int .u8 b4.toNat] 5)) = .ok (.string ⟨#[b1, b2, b3, b4]⟩) _ := fun W => run_convert_bytes_back (P := Try.prog) (W.alloc (Obj.cells #[.int .u8 b1.toNat, .int .u8 b2.toNat, .int .u8 b3.toNat, .int .u8 b4.toNat] 5)) 36 9 5 ⟨W.heap.size, 0, none⟩ 4 [b1, b2, b3, b4] Try.underlying36 Try.underlying5 Try.underlying9 (by
    intro j hj
    match j, hj with
    | 0, _ => simp [Addr.add]
    | 1, _ => simp [Addr.add]
    | 2, _ => simp [Addr.add]
    | 3, _ => simp [Addr.add]
    | j + 4, hj => simp at hj; omega)
  go_enter Try.func54, Try.ntmps54
  go_wp2_with fail
  refine (HO.out _).mono ?_
  rintro e w1 ⟨rfl, rfl⟩
  go_wp2
  go_ret
  exact ⟨rfl, (Below.refl _ _).alloc (Nat.le_refl _) _⟩
end Go.Proofs.Ytldlfmeppcdbbaa.Crc
