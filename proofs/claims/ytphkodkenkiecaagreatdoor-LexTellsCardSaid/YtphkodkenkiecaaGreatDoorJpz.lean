/- A walk: the document's decimal digits. -/
import Derived.Test.YtphkodkenkiecaaGreatDoorJzb
import Derived.Laws.IdiomStrings
import Derived.Lib.ItoaLen
namespace Go.Proofs.YtphkodkenkiecaaGreatDoor
open Go.RowKit

theorem bytes1 (W : World) (b : UInt8) (x : Int) (hx : x = b.toNat) : (convert 121 9 (.slice (some ⟨W.heap.size, 0, none⟩) 1 1)).run Tryz.prog (W.alloc (Obj.cells #[.int .u8 x] 5)) = .ok (.string ⟨#[b]⟩) (W.alloc (Obj.cells #[.int .u8 x] 5)) := by
  subst hx
  exact run_convert_bytes_back (P := Tryz.prog) (W.alloc (Obj.cells #[.int .u8 b.toNat] 5)) 121 9 5 ⟨W.heap.size, 0, none⟩ 1 [b] Tryz.underlying121 Tryz.underlying5 Tryz.underlying9 (by
    intro j hj
    match j, hj with
    | 0, _ => simp [Addr.add]
    | j + 1, hj => simp at hj)
def emptyN (v : Value) : Nat := match v with | .string s => if s.size = 0 then 1 else 0 | _ => 0
/-- What is still to be written. -/
def dz (m : Nat) (acc : List UInt8) : List UInt8 := if m = 0 ∧ acc ≠ [] then [] else Lib.decDigits m
theorem dz_step (m : Nat) (acc : List UInt8) (h : 0 < m ∨ acc = []) : dz (m / 10) (UInt8.ofNat (48 + m % 10) :: acc) ++ UInt8.ofNat (48 + m % 10) :: acc = dz m acc ++ acc := by
  have e : dz m acc = Lib.decDigits m := by
    unfold dz; rw [if_neg]; intro h2; rcases h with h | h
    · omega
    · exact h2.2 h
  rw [e]
  by_cases h10 : m < 10
  · have e2 : m / 10 = 0 := by omega
    have e3 : m % 10 = m := by omega
    rw [e2, e3, Lib.decDigits_one h10]
    unfold dz; rw [if_pos ⟨rfl, by simp⟩]; rfl
  · rw [decDigits_snoc m h10]
    unfold dz; rw [if_neg (by omega)]; simp

set_option maxHeartbeats 2000000 in
set_option maxRecDepth 100000 in
theorem rdigits_any (v : Nat) (hv : v ≤ 9223372036854775807) (w : World) : Calls Tryz.prog 94 #[.int .i64 (v : Nat)] w fun e w' => e = .returned (.string ⟨(Lib.decDigits v).toArray⟩) ∧ Below w.heap.size w w' := by
  have hv2 : (v : Int) ≤ 9223372036854775807 := by omega
  have hl := Lib.nDigits_le20 v (by omega)
  have HLen := Lib.hid (show (Lib.decDigits v).length ≤ 20 by rw [Lib.decDigits_length]; exact hl)
  clear hl hv
  go_enter Tryz.func94, Tryz.ntmps94
  go_wp2
  go_loopw [3, 4] (fun v3 v4 wr => ∃ (m : Nat) (t : ByteArray), v4 = .int .i64 m ∧ v3 = .string t ∧ Hid (dz m t.data.toList ++ t.data.toList = Lib.decDigits v) ∧ (m : Int) ≤ 9223372036854775807 ∧ Hid (Below w.heap.size w wr)) (fun v3 v4 _ => (intOf v4).toNat + emptyN v3)
  case atStart => exact ⟨v, ⟨#[]⟩, rfl, rfl, (by show _ = _; simp [dz]), hv2, Below.refl _ _⟩
  case round =>
    obtain ⟨m, t, rfl, rfl, H, hm, HB⟩ := hrel
    have hal : t.size ≤ 20 := by
      have h1 := congrArg List.length H.out; rw [List.length_append, ← Lib.size_eq] at h1; have := HLen.out; omega
    have hz := HB.out.size
    have hm0 : (0 : Int) ≤ (m : Int) % 10 := by omega
    have hm1 : (m : Int) % 10 ≤ 9 := by omega
    obtain ⟨b, hb⟩ : ∃ b, UInt8.ofNat (48 + m % 10) = b := ⟨_, rfl⟩
    have H3 := Lib.hid (show 48 + (m : Int) % 10 = b.toNat by rw [← hb, dig_ofNat _ (by omega)]; omega)
    have hcv := fun W => bytes1 W b (48 + (m : Int) % 10) H3.out
    have key : (0 < m ∨ t.data.toList = []) → Hid (dz (m / 10) ((⟨#[b]⟩ : ByteArray) ++ t).data.toList ++ ((⟨#[b]⟩ : ByteArray) ++ t).data.toList = Lib.decDigits v) := by
      intro hc
      show _ = _
      have e : ((⟨#[b]⟩ : ByteArray) ++ t).data.toList = b :: t.data.toList := by rw [ByteArray.data_append, Array.toList_append]; rfl
      rw [e, ← H.out, ← hb]; exact dz_step m _ hc
    have ee : ((⟨#[b]⟩ : ByteArray) ++ t).size ≠ 0 := by rw [ByteArray.size_append]; show 1 + t.size ≠ 0; omega
    have HEE := Lib.hid ee
    clear ee
    by_cases hc : 0 < m
    · have H2 := key (.inl hc)
      have hc2 : (0 : Int) < m := by omega
      clear key H hb hc
      go_wp2
      go_roundw
      case rel => exact ⟨m / 10, _, by go_num, rfl, H2, by omega, HB.out.alloc hz _⟩
      case measure => simp only [emptyN, intOf]; rw [if_neg HEE.out]; omega
    · obtain rfl : m = 0 := by omega
      by_cases ht : t.data.toList = []
      · have H2 := key (.inr ht)
        have et : t = ⟨#[]⟩ := by cases t with | mk d => cases d with | mk l => simp at ht; rw [ht]
        clear key H hb hc
        subst et
        have hcv0 := fun W => bytes1 W b 48 (by have := H3.out; simpa using this)
        clear ht hcv
        go_wp2
        go_roundw
        case rel => exact ⟨0, _, by go_num, rfl, H2, by omega, HB.out.alloc hz _⟩
        case measure => simp only [emptyN, intOf]; rw [if_neg HEE.out, if_pos (show (⟨#[]⟩ : ByteArray).size = 0 from rfl)]; simp
      · have h1 : ¬ t.toList = [] := by rw [ByteArray.toList_eq]; exact ht
        have h2 : t.toList.isEmpty = false := by simpa using h1
        have H2 := Lib.hid (show Lib.decDigits v = t.data.toList by rw [← H.out]; unfold dz; rw [if_pos ⟨rfl, ht⟩]; rfl)
        clear key H hb hc ht hcv
        go_wp2
        go_ret
        refine ⟨?_, HB.out⟩
        rw [H2.out, str_of]; rfl
end Go.Proofs.YtphkodkenkiecaaGreatDoor
