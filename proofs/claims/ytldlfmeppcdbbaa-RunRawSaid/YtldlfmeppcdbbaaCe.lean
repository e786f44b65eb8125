/- Walks: a frame is told; what stands within the first frame. -/
import Derived.Test.YtldlfmeppcdbbaaCd
import Derived.Test.YtldlfmeppcdbbaaCb
import Derived.Deep.RegionWith
import Derived.Deep.DeepMust
import Derived.Deep.RegionHeld3
import Derived.Deep.DeepFit
import Derived.BigQuiet
namespace Go.Proofs.Ytldlfmeppcdbbaa.Crc
open Go.RowKit Go.Lib

theorem bytes_same {a b : ByteArray} (h : a.data.toList = b.data.toList) : a = b := by
  cases a with | mk a => cases b with | mk b => simpa [Array.toList_inj] using h
theorem str_of (s : ByteArray) : (⟨s.data.toList.toArray⟩ : ByteArray) = s := by cases s; simp
theorem str_data (l : List UInt8) : (⟨l.toArray⟩ : ByteArray).data.toList = l := by simp
theorem str_size (l : List UInt8) : (⟨l.toArray⟩ : ByteArray).size = l.length := by simp [ByteArray.size]
theorem app_data (a b : ByteArray) : (a ++ b).data.toList = a.data.toList ++ b.data.toList := by simp
theorem ext_data (s : ByteArray) (i j : Nat) : (s.extract i j).data.toList = (s.data.toList.drop i).take (j - i) := by
  rw [ByteArray.data_extract, Array.toList_extract]
theorem ext_rest (s : ByteArray) (i : Nat) : (s.extract i s.size).data.toList = s.data.toList.drop i := by
  rw [ext_data, List.take_of_length_le (by rw [List.length_drop, Lib.size_eq]; omega)]
theorem numB_val : ∀ (n : Nat) (l : List UInt8), l.length = n → numB n (valA 0 l) = l
  | 0, [], _ => rfl
  | n + 1, c :: l, h => by
    have hl : l.length = n := by simpa using h
    have hv := valA_lt0 l
    have hp : 0 < 256 ^ n := Nat.pow_pos (by decide)
    rw [hl] at hv
    rw [numB, valA, valA_eq, Nat.zero_mul, Nat.zero_add, hl]
    have e1 : (c.toNat * 256 ^ n + valA 0 l) / 256 ^ n = c.toNat := by
      rw [Nat.mul_comm, Nat.mul_add_div hp, Nat.div_eq_of_lt hv, Nat.add_zero]
    have e2 : ∀ (m v k : Nat), m ≤ k → numB m (c.toNat * 256 ^ k + v) = numB m v := by
      intro m
      induction m with
      | zero => intro v k _; rfl
      | succ m ih =>
        intro v k hk
        rw [numB, numB, ih v k (by omega)]
        congr 1
        obtain ⟨d, rfl⟩ : ∃ d, k = m + 1 + d := ⟨k - (m + 1), by omega⟩
        have e : c.toNat * 256 ^ (m + 1 + d) = 256 ^ m * (256 * (c.toNat * 256 ^ d)) := by
          rw [Nat.pow_add, Nat.pow_add, Nat.pow_one]
          simp only [Nat.mul_assoc, Nat.mul_left_comm, Nat.mul_comm]
        rw [e, Nat.mul_add_div (Nat.pow_pos (by decide))]
        apply UInt8.toNat_inj.1
        rw [u8, u8]; omega
    rw [e1, e2 n _ n (Nat.le_refl _), numB_val n l hl]
    simp
/-- Four bytes are a sum's bytes just where they tell it. -/
theorem sum_iff (c d : List UInt8) (h : c.length = 4) : c = numB 4 (crcN d) ↔ valA 0 c = crcN d := by
  constructor
  · rintro rfl; exact crc_num d
  · intro e; rw [← e, numB_val 4 c h]
theorem bytes_iff (a : ByteArray) (l : List UInt8) : a = ⟨l.toArray⟩ ↔ a.data.toList = l :=
  ⟨fun e => by rw [e, str_data], fun e => bytes_same (by rw [e, str_data])⟩

/-- The frame of bytes, as a text. -/
def frameS (s : ByteArray) : ByteArray := ⟨(frameL s.data.toList).toArray⟩
theorem frameS_size (s : ByteArray) : (frameS s).size = s.size + 10 := by unfold frameS; rw [str_size, frameL_len, Lib.size_eq]
theorem frameS_data (s : ByteArray) : (frameS s).data.toList = frameL s.data.toList := str_data _
theorem sumS_size (l : List UInt8) : (sumS l).size = 4 := numS_size 4 _

set_option maxHeartbeats 1000000 in
set_option maxRecDepth 100000 in
theorem frame_no (s : ByteArray) (w : World) (hs : 12000 < s.size) (hm : s.size ≤ 1099511627776) :
    Calls Try.prog 45 #[.string s] w fun e w' => e = .returned (.tuple #[.string ⟨#[]⟩, .int .i64 1]) ∧ w' = w := by
  obtain ⟨n, hn⟩ : ∃ n, s.size = n := ⟨_, rfl⟩
  have j1 : (12000 : Int) < n := by omega
  have j2 : (n : Int) ≤ 1099511627776 := by omega
  clear hs hm
  go_enter Try.func45, Try.ntmps45
  go_wp2
  go_ret2
  exact ⟨rfl, rfl⟩

set_option maxHeartbeats 1000000 in
set_option maxRecDepth 100000 in
theorem frame_any (s : ByteArray) (w : World) (hs : s.size ≤ 12000) :
    Calls Try.prog 45 #[.string s] w fun e w' => e = .returned (.tuple #[.string (frameS s), .int .i64 0]) ∧ Below w.heap.size w w' := by
  obtain ⟨n, hn⟩ : ∃ n, s.size = n := ⟨_, rfl⟩
  obtain ⟨b1, e1⟩ : ∃ b, UInt8.ofNat (n / 256) = b := ⟨_, rfl⟩
  obtain ⟨b2, e2⟩ : ∃ b, UInt8.ofNat n = b := ⟨_, rfl⟩
  have hsz : numS 2 n = ⟨#[b1, b2]⟩ := by rw [← e1, ← e2]; simp [numS, numB]
  have t1 : (n : Int) / 256 = b1.toNat := by rw [← e1, u8]; omega
  have t2 : (n : Int) % 256 = b2.toNat := by rw [← e2, u8]; omega
  have l1 := b1.toNat_lt
  have l2 := b2.toNat_lt
  have HF := Lib.hid (show (⟨#[b1, b2]⟩ : ByteArray) ++ sumS (⟨#[b1, b2]⟩ : ByteArray).data.toList ++ s ++ sumS s.data.toList = frameS s from bytes_same (by
    rw [app_data, app_data, app_data, frameS_data, ← hsz]
    unfold sumS
    rw [numS_data, numS_data, numS_data, ← hn, Lib.size_eq]
    unfold frameL
    simp only [List.append_assoc]))
  have H1 := Lib.hid (fun W => sum_any ⟨#[b1, b2]⟩ W (by simp [ByteArray.size]))
  have H2 := Lib.hid (fun W => sum_any s W (by omega))
  have z1 := sumS_size (⟨#[b1, b2]⟩ : ByteArray).data.toList
  have z2 := sumS_size s.data.toList
  generalize sumS (⟨#[b1, b2]⟩ : ByteArray).data.toList = x1 at HF H1 z1
  generalize sumS s.data.toList = x2 at HF H2 z2
  have HN := Lib.hid hn
  clear e1 e2 hsz
  have hcv : ∀ W : World, (convert 36 9 (.slice (some ⟨W.heap.size, 0, none⟩) 2 2)).run Try.prog (W.alloc (Obj.cells #[.int .u8 b1.toNat, .int .u8 b2.toNat] 5)) = .ok (.string ⟨#[b1, b2]⟩) _ := fun W => run_convert_bytes_back (P := Try.prog) (W.alloc (Obj.cells #[.int .u8 b1.toNat, .int .u8 b2.toNat] 5)) 36 9 5 ⟨W.heap.size, 0, none⟩ 2 [b1, b2] Try.underlying36 Try.underlying5 Try.underlying9 (by
    intro j hj
    match j, hj with
    | 0, _ => simp [Addr.add]
    | 1, _ => simp [Addr.add]
    | j + 2, hj => simp at hj; omega)
  have q1 : ((⟨#[b1, b2]⟩ : ByteArray) ++ x1).size = 6 := by rw [ByteArray.size_append, z1]; rfl
  have q2 : ((⟨#[b1, b2]⟩ : ByteArray) ++ x1 ++ s).size ≤ 12006 := by rw [ByteArray.size_append, q1]; omega
  go_enter Try.func45, Try.ntmps45
  go_wp2_with fail
  refine (H1.out _).mono ?_
  rintro e w1 ⟨rfl, b1⟩
  have HB1 := Lib.hid (((Below.refl w.heap.size w).alloc (Nat.le_refl _) _).trans (b1.mono (by simp)))
  clear b1
  go_wp2_with fail
  refine (H2.out _).mono ?_
  rintro e w2 ⟨rfl, b2⟩
  have HB2 := Lib.hid (HB1.out.trans (b2.mono HB1.out.size))
  clear b2
  go_wp2
  go_ret2
  rw [← HF.out]
  exact ⟨rfl, HB2.out⟩

theorem wraps_i64 (n : Int) (h₀ : 0 ≤ n) (h₁ : n < 2 ^ 62) : IntKind.i64.wrap n = n := by
  simp [IntKind.wrap, IntKind.bits, IntKind.signed]; omega
theorem drewN_below (w : World) (n : Nat) : Below w.heap.size w (w.drewN n) := ⟨rfl, rfl, rfl, Nat.le_refl _, fun _ _ => rfl⟩
/-- What is told of the first frame: its bytes, how many the whole frame has, or an error. -/
def firstV (b : ByteArray) : Value := .tuple #[.string ⟨(takeF b.data.toList).2.1.toArray⟩, .int .i64 ((if (takeF b.data.toList).1 = 0 then (takeF b.data.toList).2.1.length + 10 else 0 : Nat) : Int), .int .i64 ((takeF b.data.toList).1 : Nat)]
theorem firstV_err (b : ByteArray) (n : Nat) (hn : n ≠ 0) (h : takeF b.data.toList = (n, [], [])) : firstV b = .tuple #[.string ⟨#[]⟩, .int .i64 0, .int .i64 n] := by
  unfold firstV; rw [h]; simp only [if_neg hn]; rfl

set_option maxHeartbeats 1000000 in
set_option maxRecDepth 100000 in
theorem first_any (b : ByteArray) (w : World) (hm : b.size ≤ 1099511627776) :
    Calls Try.prog 64 #[.string b] w fun e w' => e = .returned (firstV b) ∧ Below w.heap.size w w' := by
  obtain ⟨m, hsz⟩ : ∃ m, b.size = m := ⟨_, rfl⟩
  have hlen : b.data.toList.length = m := by rw [← Lib.size_eq]; exact hsz
  have hm1 : (m : Int) ≤ 1099511627776 := by omega
  by_cases h6 : m < 6
  · have HV := Lib.hid (firstV_err b 2 (by decide) (by unfold takeF; rw [if_pos (by omega)]))
    have j1 : (m : Int) < 6 := by omega
    clear h6 hlen hm
    go_enter Try.func64, Try.ntmps64
    go_wp2
    go_ret3
    rw [HV.out]
    exact ⟨rfl, Below.refl _ _⟩
  have j6 : (6 : Int) ≤ m := by omega
  obtain ⟨x, hx⟩ : ∃ x, b.extract 2 6 = x := ⟨_, rfl⟩
  obtain ⟨y, hy⟩ : ∃ y, b.extract 0 2 = y := ⟨_, rfl⟩
  have hxd : x.data.toList = (b.data.toList.drop 2).take 4 := by rw [← hx, ext_data]
  have hyd : y.data.toList = b.data.toList.take 2 := by rw [← hy, ext_data, List.drop_zero]
  have hys : y.size ≤ 1099511627776 := by rw [Lib.size_eq, hyd, List.length_take]; omega
  have H1 := Lib.hid (fun W => sum_any y W hys)
  obtain ⟨s1, hs1⟩ : ∃ s, sumS y.data.toList = s := ⟨_, rfl⟩
  have hi1 : x = s1 ↔ valA 0 ((b.data.toList.drop 2).take 4) = crcN (b.data.toList.take 2) := by
    rw [← hs1, ← hxd, ← hyd]
    unfold sumS numS
    rw [bytes_iff]
    exact sum_iff _ _ (by rw [hxd, List.length_take, List.length_drop, hlen]; omega)
  rw [hs1] at H1
  clear hs1
  by_cases h7 : x = s1
  case neg =>
    have HV := Lib.hid (firstV_err b 10 (by decide) (by unfold takeF; rw [if_neg (by omega), if_pos (fun e => h7 (hi1.2 e))]))
    have hq1 : (x.toList == s1.toList) = false := by
      rw [beq_eq_false_iff_ne, ByteArray.toList_eq, ByteArray.toList_eq]
      exact fun e => h7 (bytes_same e)
    clear hlen hm hi1 hxd hyd hys h6 h7
    go_enter Try.func64, Try.ntmps64
    go_wp2_with fail
    go_region_with (go_at_call 54; refine (H1.out _).mono ?_; rintro e wq ⟨rfl, bq⟩)
    have HB1 := Lib.hid (((Below.refl w.heap.size w).drew).trans (bq.mono (by simp)))
    clear bq
    go_wp2
    go_ret3
    rw [HV.out]
    exact ⟨rfl, HB1.out⟩
  obtain ⟨c0, c1, hc⟩ : ∃ c0 c1, b.data.toList.take 2 = [c0, c1] := by
    match hb : b.data.toList, hlen with
    | [], h => simp at h; omega
    | [_], h => simp at h; omega
    | c0 :: c1 :: _, _ => exact ⟨c0, c1, rfl⟩
  have hb0 : 0 < b.size := by omega
  have hb1 : 1 < b.size := by omega
  have hg0 : b[0]'hb0 = c0 := by
    have h := congrArg (fun l => l[0]?) hc
    simp only [List.getElem?_take] at h
    have h2 : b.data.toList[0]? = some (b[0]'hb0) := List.getElem?_eq_getElem (l := b.data.toList) (by omega)
    rw [if_pos (by omega), h2] at h
    simpa using h
  have hg1 : b[1]'hb1 = c1 := by
    have h := congrArg (fun l => l[1]?) hc
    simp only [List.getElem?_take] at h
    have h2 : b.data.toList[1]? = some (b[1]'hb1) := List.getElem?_eq_getElem (l := b.data.toList) (by omega)
    rw [if_pos (by omega), h2] at h
    simpa using h
  obtain ⟨a0, ha0⟩ : ∃ a, c0.toNat = a := ⟨_, rfl⟩
  obtain ⟨a1, ha1⟩ : ∃ a, c1.toNat = a := ⟨_, rfl⟩
  have l0 : a0 < 256 := by rw [← ha0]; exact c0.toNat_lt
  have l1 : a1 < 256 := by rw [← ha1]; exact c1.toNat_lt
  obtain ⟨k, hk⟩ : ∃ k, a0 * 256 + a1 = k := ⟨_, rfl⟩
  have hv : valA 0 (b.data.toList.take 2) = k := by rw [hc, ← hk, ← ha0, ← ha1]; simp [valA]
  have hor : bits .or .i64 ((a0 : Int) * 256) a1 = (k : Int) := by
    have h := bits_join .i64 62 (by decide) wraps_i64 8 ((a0 : Int) * 256) a1 (by omega) (by omega) (by omega) (by omega) (by omega) (by omega)
    rw [h]; omega
  have g0 : (b[0]'hb0).toNat = a0 := by rw [hg0]; exact ha0
  have g1 : (b[1]'hb1).toNat = a1 := by rw [hg1]; exact ha1
  have hx0 : ∀ W : World, (Instr.index 9 (.string b) (.int .i64 0)).run Try.prog W = .ok (.int .u8 a0) W := fun W => by
    rw [run_index_string (P := Try.prog) W 9 b .i64 0 Try.underlying9, dif_pos ⟨by omega, by omega⟩]
    exact congrArg (fun v => Result.ok (Value.int .u8 v) W) (congrArg Nat.cast g0)
  have hx1 : ∀ W : World, (Instr.index 9 (.string b) (.int .i64 1)).run Try.prog W = .ok (.int .u8 a1) W := fun W => by
    rw [run_index_string (P := Try.prog) W 9 b .i64 1 Try.underlying9, dif_pos ⟨by omega, by omega⟩]
    exact congrArg (fun v => Result.ok (Value.int .u8 v) W) (congrArg Nat.cast g1)
  have hwr : IntKind.i64.wrap (6 + bits .or .i64 (IntKind.i64.wrap (IntKind.i64.wrap (a0 : Int) * 256)) (IntKind.i64.wrap (a1 : Int))) = ((k + 6 : Nat) : Int) := by
    rw [wraps_i64 (a0 : Int) (by omega) (by omega), wraps_i64 (a1 : Int) (by omega) (by omega), wraps_i64 ((a0 : Int) * 256) (by omega) (by omega), hor, wraps_i64 _ (by omega) (by omega)]
    omega
  have hkl : k < 65536 := by omega
  obtain ⟨E, hE⟩ : ∃ E : Nat, k + 6 = E := ⟨_, rfl⟩
  obtain ⟨F, hF⟩ : ∃ F : Nat, E + 4 = F := ⟨_, rfl⟩
  have i1 : 6 + (k : Int) = (E : Int) := by omega
  rw [hE] at hwr
  have i2 : (E : Int) + 4 = (F : Int) := by omega
  have hq1 : (x.toList == s1.toList) = true := by rw [h7, beq_self_eq_true]
  have hc1 : valA 0 ((b.data.toList.drop 2).take 4) = crcN (b.data.toList.take 2) := hi1.1 h7
  have HV3 := Lib.hid (fun h8 : m < F => firstV_err b 2 (by decide) (by unfold takeF; rw [if_neg (by omega), if_neg (fun e => e hc1), hv, if_pos (by omega)]))
  have HV4 := Lib.hid (fun (h8 : ¬ m < F) (h9 : 12000 < k) => firstV_err b 10 (by decide) (by unfold takeF; rw [if_neg (by omega), if_neg (fun e => e hc1), hv, if_neg (by omega), if_pos (Or.inl h9)]))
  obtain ⟨z, hz⟩ : ∃ z, b.extract 6 E = z := ⟨_, rfl⟩
  obtain ⟨v, hvx⟩ : ∃ v, b.extract E F = v := ⟨_, rfl⟩
  have hzd : z.data.toList = (b.data.toList.drop 6).take k := by rw [← hz, ext_data, show E - 6 = k by omega]
  have hvd : v.data.toList = (b.data.toList.drop (6 + k)).take 4 := by rw [← hvx, ext_data, show E = 6 + k by omega, show F - (6 + k) = 4 by omega]
  have HZ := Lib.hid (fun h8 : ¬ m < F => (show z.size = k by rw [Lib.size_eq, hzd, List.length_take, List.length_drop, hlen]; omega))
  obtain ⟨s2, hs2⟩ : ∃ s, sumS z.data.toList = s := ⟨_, rfl⟩
  have hi2 : ¬ m < F → (v = s2 ↔ valA 0 ((b.data.toList.drop (6 + k)).take 4) = crcN ((b.data.toList.drop 6).take k)) := fun h8 => by
    rw [← hs2, ← hvd, ← hzd]
    unfold sumS numS
    rw [bytes_iff]
    exact sum_iff _ _ (by rw [hvd, List.length_take, List.length_drop, hlen]; omega)
  have H2 := Lib.hid (fun (hk2 : z.size ≤ 1099511627776) W => (show Calls Try.prog 54 #[.string z] W fun e w' => e = .returned (.string s2) ∧ Below W.heap.size W w' from by rw [← hs2]; exact sum_any z W hk2))
  have HV5 := Lib.hid (fun (h8 : ¬ m < F) (h9 : ¬ 12000 < k) (h10 : ¬ v = s2) => firstV_err b 10 (by decide) (by unfold takeF; rw [if_neg (by omega), if_neg (fun e => e hc1), hv, if_neg (by omega), if_pos (Or.inr (fun e => h10 ((hi2 h8).2 e)))]))
  have HV6 := Lib.hid (fun (h8 : ¬ m < F) (h9 : ¬ 12000 < k) (h10 : v = s2) => (show firstV b = .tuple #[.string z, .int .i64 F, .int .i64 0] from by
    have e : takeF b.data.toList = (0, (b.data.toList.drop 6).take k, b.data.toList.drop (10 + k)) := by
      unfold takeF; rw [if_neg (by omega), if_neg (fun e => e hc1), hv, if_neg (by omega), if_neg (by
        rintro (h | h)
        · exact h9 h
        · exact h ((hi2 h8).1 h10))]
    have hz2 := HZ.out h8
    rw [Lib.size_eq, hzd] at hz2
    unfold firstV
    rw [e]
    simp only [if_pos, hz2]
    rw [← hzd, str_of, show k + 10 = F by omega]
    rfl))
  have hqs : (v.toList == s2.toList) = true ↔ v = s2 := by
    rw [beq_iff_eq, ByteArray.toList_eq, ByteArray.toList_eq]
    exact ⟨bytes_same, fun e => by rw [e]⟩
  have HQ := Lib.hid hqs
  clear g0 g1 hb0 hb1 hlen hm hi1 hxd hyd hys h6 hc hg0 hg1 ha0 ha1 hc1 hv hk hi2 hs2 hzd hvd hqs
  go_enter Try.func64, Try.ntmps64
  go_wp2_with fail
  go_region_with (go_at_call 54; refine (H1.out _).mono ?_; rintro e wq ⟨rfl, bq⟩)
  have HB1 := Lib.hid (((Below.refl w.heap.size w).drew).trans (bq.mono (by simp)))
  clear bq
  go_wp2_with fail
  go_quiet (fail)

  obtain ⟨wr, hww⟩ : ∃ wr, wq.drewN nq = wr := ⟨_, rfl⟩
  rw [hww]
  have HB2 := Lib.hid (show Below w.heap.size w wr by rw [← hww]; exact HB1.out.trans ((drewN_below wq nq).mono HB1.out.size))
  clear hww hx0 hx1 hor hwr hq1 hx hy h7 i1
  have f1 : (F : Int) ≤ 70000 := by omega
  have f2 : (E : Int) ≤ 70000 := by omega
  by_cases h8 : m < F
  · have HV := Lib.hid (HV3.out h8)
    have j8 : (m : Int) < F := by omega
    clear HV3 HV4 HV5 HV6 HZ H2 hE hF h8 hz hvx
    go_wp2
    go_ret3
    rw [HV.out]
    exact ⟨rfl, HB2.out⟩
  have j8 : (F : Int) ≤ m := by omega
  have j9 : (E : Int) ≤ m := by omega
  have j10 : (6 : Int) ≤ E := by omega
  have j11 : (E : Int) ≤ F := by omega
  have hwf : IntKind.i64.wrap (F : Int) = F := wraps_i64 _ (by omega) (by omega)
  have hzs := HZ.out h8
  have hz2 : (z.size : Int) = k := by omega
  by_cases h9 : 12000 < k
  · have HV := Lib.hid (HV4.out h8 h9)
    have hd : decide ((12000 : Int) < k) = true := decide_eq_true (by omega)
    clear HV3 HV4 HV5 HV6 HZ H2 hE hF h8 hvx
    go_wp2_with fail
    go_quiet (fail)
    go_wp2
    go_ret3
    rw [HV.out]
    exact ⟨rfl, HB2.out.trans ((drewN_below wr _).mono HB2.out.size)⟩
  · have hd : decide ((12000 : Int) < k) = false := decide_eq_false (by omega)
    have H3 := Lib.hid (H2.out (by omega))
    by_cases h10 : v = s2
    · have HV := Lib.hid (HV6.out h8 h9 h10)
      have hq2 : (v.toList == s2.toList) = true := HQ.out.2 h10
      clear HV3 HV4 HV5 HV6 HZ H2 hE hF h8 h9 h10 HQ
      go_wp2_with fail
      go_region_held3 (fun _ => True) (exact trivial) (first
        | (go_at_call 54; refine (H3.out _).mono ?_; rintro e wp ⟨rfl, bq⟩))
      have HB3 := Lib.hid (HB2.out.trans (((Below.refl wr.heap.size wr).drew.trans (bq.mono (by simp))).mono HB2.out.size))
      clear bq
      go_wp2
      go_ret3
      rw [HV.out]
      exact ⟨rfl, HB3.out⟩
    · have HV := Lib.hid (HV5.out h8 h9 h10)
      have hq2 : (v.toList == s2.toList) = false := by
        cases h : (v.toList == s2.toList) with
        | false => rfl
        | true => exact absurd (HQ.out.1 h) h10
      clear HV3 HV4 HV5 HV6 HZ H2 hE hF h8 h9 h10 HQ
      go_wp2_with fail
      go_region_held3 (fun _ => True) (exact trivial) (first
        | (go_at_call 54; refine (H3.out _).mono ?_; rintro e wp ⟨rfl, bq⟩))
      have HB3 := Lib.hid (HB2.out.trans (((Below.refl wr.heap.size wr).drew.trans (bq.mono (by simp))).mono HB2.out.size))
      clear bq
      go_wp2
      go_ret3
      rw [HV.out]
      exact ⟨rfl, HB3.out⟩
end Go.Proofs.Ytldlfmeppcdbbaa.Crc
