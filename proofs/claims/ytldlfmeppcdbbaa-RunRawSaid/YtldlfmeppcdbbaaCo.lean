/- The document's frames: told and taken. -/
import Derived.Test.YtldlfmeppcdbbaaCn
namespace Go.Proofs.Ytldlfmeppcdbbaa.Crc
open Go.RowKit Go.Lib

set_option maxHeartbeats 1000000 in
set_option maxRecDepth 100000 in
theorem dframe_any (s : ByteArray) (w : World) (hs : s.size ≤ 12000) :
    Calls Try.prog 37 #[.string s] w fun e w' => e = .returned (.string (frameS s)) ∧ Below w.heap.size w w' := by
  obtain ⟨n, hn⟩ : ∃ n, s.size = n := ⟨_, rfl⟩
  have HH := Lib.hid (fun W => (show Calls Try.prog 38 #[.int .i64 n, .int .i64 2] W fun e w' => e = .returned (.string (numS 2 n)) ∧ Below W.heap.size W w' from high_any n 2 W (by omega) (by decide) (by decide)))
  have hz0 := numS_size 2 n
  have hd0 := numS_data 2 n
  generalize hh : numS 2 n = h at HH hz0 hd0
  have HS1 := Lib.hid (fun W => dsum_is h W (by omega))
  have HS2 := Lib.hid (fun W => dsum_is s W (by omega))
  have hl1 := crcN_lt h.data.toList
  have hl2 := crcN_lt s.data.toList
  have HF := Lib.hid (show h ++ numS 4 (crcN h.data.toList) ++ s ++ numS 4 (crcN s.data.toList) = frameS s from bytes_same (by
    rw [app_data, app_data, app_data, frameS_data, numS_data, numS_data, hd0, ← hn, Lib.size_eq]
    unfold frameL
    simp only [List.append_assoc]))
  obtain ⟨c1, hc1⟩ : ∃ c, crcN h.data.toList = c := ⟨_, rfl⟩
  obtain ⟨c2, hc2⟩ : ∃ c, crcN s.data.toList = c := ⟨_, rfl⟩
  rw [hc1] at HS1 hl1 HF
  rw [hc2] at HS2 hl2 HF
  have HH1 := Lib.hid (fun W => (show Calls Try.prog 38 #[.int .i64 c1, .int .i64 4] W fun e w' => e = .returned (.string (numS 4 c1)) ∧ Below W.heap.size W w' from high_any c1 4 W (by omega) (by decide) (by decide)))
  have HH2 := Lib.hid (fun W => (show Calls Try.prog 38 #[.int .i64 c2, .int .i64 4] W fun e w' => e = .returned (.string (numS 4 c2)) ∧ Below W.heap.size W w' from high_any c2 4 W (by omega) (by decide) (by decide)))
  have z1 := numS_size 4 c1
  have z2 := numS_size 4 c2
  generalize numS 4 c1 = x1 at HF HH1 z1
  generalize numS 4 c2 = x2 at HF HH2 z2
  have q1 : (h ++ x1).size = 6 := by rw [ByteArray.size_append, z1, hz0]
  have q2 : (h ++ x1 ++ s).size ≤ 12006 := by rw [ByteArray.size_append, q1]; omega
  have l1 : (c1 : Int) < 4294967296 := by omega
  have l2 : (c2 : Int) < 4294967296 := by omega
  clear hh hd0 hc1 hc2 hl1 hl2
  go_enter Try.func37, Try.ntmps37
  go_wp2_with fail
  refine (HH.out _).mono ?_
  rintro e w1 ⟨rfl, b1⟩
  have HB1 := Lib.hid b1
  clear b1
  go_wp2_with fail
  refine (HS1.out _).mono ?_
  rintro e w2 ⟨rfl, rfl⟩
  go_wp2_with fail
  refine (HH1.out _).mono ?_
  rintro e w3 ⟨rfl, b3⟩
  have HB3 := Lib.hid (HB1.out.trans (b3.mono HB1.out.size))
  clear b3
  go_wp2_with fail
  refine (HS2.out _).mono ?_
  rintro e w4 ⟨rfl, rfl⟩
  go_wp2_with fail
  refine (HH2.out _).mono ?_
  rintro e w5 ⟨rfl, b5⟩
  have HB5 := Lib.hid (HB3.out.trans (b5.mono HB3.out.size))
  clear b5
  go_wp2
  go_ret
  rw [← HF.out]
  exact ⟨rfl, HB5.out⟩

theorem takeV_err (b : ByteArray) (n : Nat) (h : takeF b.data.toList = (n, [], [])) : takeV b = .tuple #[.string ⟨#[]⟩, .string ⟨#[]⟩, .int .i64 n] := by
  unfold takeV; rw [h]

set_option maxHeartbeats 2000000 in
set_option maxRecDepth 100000 in
theorem dtake_is (b : ByteArray) (w : World) (hm : b.size ≤ 1099511627776) :
    Calls Try.prog 23 #[.string b] w fun e w' => e = .returned (takeV b) ∧ ∃ n, w' = w.drewN n := by
  obtain ⟨m, hsz⟩ : ∃ m, b.size = m := ⟨_, rfl⟩
  have hlen : b.data.toList.length = m := by rw [← Lib.size_eq]; exact hsz
  have hm1 : (m : Int) ≤ 1099511627776 := by omega
  by_cases h6 : m < 6
  · have HV := Lib.hid (takeV_err b 2 (by unfold takeF; rw [if_pos (by omega)]))
    have j1 : (m : Int) < 6 := by omega
    clear h6 hlen hm
    go_enter Try.func23, Try.ntmps23
    go_wp2
    go_ret3
    rw [HV.out]
    exact ⟨rfl, 0, rfl⟩
  have j6 : (6 : Int) ≤ m := by omega
  obtain ⟨x, hx⟩ : ∃ x, b.extract 2 6 = x := ⟨_, rfl⟩
  obtain ⟨y, hy⟩ : ∃ y, b.extract 0 2 = y := ⟨_, rfl⟩
  have hxd : x.data.toList = (b.data.toList.drop 2).take 4 := by rw [← hx, ext_data]
  have hyd : y.data.toList = b.data.toList.take 2 := by rw [← hy, ext_data, List.drop_zero]
  have hxs : x.size = 4 := by rw [Lib.size_eq, hxd, List.length_take, List.length_drop]; omega
  have hys : y.size = 2 := by rw [Lib.size_eq, hyd, List.length_take]; omega
  have HV1 := Lib.hid (fun W => dvalue_is y W (by omega))
  have HV2 := Lib.hid (fun W => dvalue_is x W (by omega))
  have HS1 := Lib.hid (fun W => dsum_is y W (by omega))
  rw [hyd] at HV1 HS1
  rw [hxd] at HV2
  have hk1 := valA_lt0 (b.data.toList.take 2)
  rw [List.length_take, show min 2 b.data.toList.length = 2 by omega] at hk1
  have hp1 := valA_lt0 ((b.data.toList.drop 2).take 4)
  rw [List.length_take, List.length_drop, show min 4 (b.data.toList.length - 2) = 4 by omega] at hp1
  have hq1 := crcN_lt (b.data.toList.take 2)
  obtain ⟨k, hk⟩ : ∃ k, valA 0 (b.data.toList.take 2) = k := ⟨_, rfl⟩
  obtain ⟨p1, hpp1⟩ : ∃ p, valA 0 ((b.data.toList.drop 2).take 4) = p := ⟨_, rfl⟩
  obtain ⟨q1, hqq1⟩ : ∃ q, crcN (b.data.toList.take 2) = q := ⟨_, rfl⟩
  rw [hk] at HV1 hk1
  rw [hpp1] at HV2 hp1
  rw [hqq1] at HS1 hq1
  obtain ⟨E, hE⟩ : ∃ E : Nat, 6 + k = E := ⟨_, rfl⟩
  obtain ⟨F, hF⟩ : ∃ F : Nat, 10 + k = F := ⟨_, rfl⟩
  obtain ⟨z, hz⟩ : ∃ z, b.extract 6 E = z := ⟨_, rfl⟩
  obtain ⟨v, hv⟩ : ∃ v, b.extract E F = v := ⟨_, rfl⟩
  obtain ⟨r, hr⟩ : ∃ r, b.extract F m = r := ⟨_, rfl⟩
  have hzd : z.data.toList = (b.data.toList.drop 6).take k := by rw [← hz, ext_data, show E - 6 = k by omega]
  have hvd : v.data.toList = (b.data.toList.drop (6 + k)).take 4 := by rw [← hv, ext_data, show F - E = 4 by omega, hE]
  have hrd : r.data.toList = b.data.toList.drop (10 + k) := by rw [← hr, ← hsz, ext_rest, hF]
  have hvs : v.size ≤ 4 := by rw [Lib.size_eq, hvd, List.length_take]; omega
  have hzs : z.size ≤ 1099511627776 := by rw [Lib.size_eq, hzd, List.length_take]; omega
  have HV3 := Lib.hid (fun W => dvalue_is v W (by omega))
  have HS2 := Lib.hid (fun W => dsum_is z W hzs)
  rw [hvd] at HV3
  rw [hzd] at HS2
  have hp2 := valA_lt0 ((b.data.toList.drop (6 + k)).take 4)
  have hp2' : 256 ^ ((b.data.toList.drop (6 + k)).take 4).length ≤ 256 ^ 4 := Nat.pow_le_pow_right (by decide) (by rw [List.length_take]; omega)
  have hq2 := crcN_lt ((b.data.toList.drop 6).take k)
  obtain ⟨p2, hpp2⟩ : ∃ p, valA 0 ((b.data.toList.drop (6 + k)).take 4) = p := ⟨_, rfl⟩
  obtain ⟨q2, hqq2⟩ : ∃ q, crcN ((b.data.toList.drop 6).take k) = q := ⟨_, rfl⟩
  rw [hpp2] at HV3 hp2
  rw [hqq2] at HS2 hq2
  have HT := Lib.hid (show takeF b.data.toList = if p1 ≠ q1 then (10, [], []) else if m < F then (2, [], []) else if 12000 < k ∨ p2 ≠ q2 then (10, [], []) else (0, z.data.toList, r.data.toList) by
    unfold takeF
    rw [if_neg (by omega), hpp1, hqq1, hk, hpp2, hqq2, hlen, hF, ← hzd, ← hF, ← hrd])
  have n1 : IntKind.i64.wrap (q1 : Int) = q1 := wraps_i64 _ (by omega) (by omega)
  have n2 : IntKind.i64.wrap (q2 : Int) = q2 := wraps_i64 _ (by omega) (by omega)
  have n3 : IntKind.i64.wrap (10 + (k : Int)) = F := by rw [wraps_i64 _ (by omega) (by omega)]; omega
  have n4 : IntKind.i64.wrap (6 + (k : Int)) = E := by rw [wraps_i64 _ (by omega) (by omega)]; omega
  have n5 : 10 + (k : Int) = F := by omega
  have n6 : IntKind.i64.wrap (F : Int) = F := wraps_i64 _ (by omega) (by omega)
  have f1 : (F : Int) ≤ 70000 := by omega
  clear hxd hyd hzd hvd hrd hpp1 hqq1 hpp2 hqq2 hk hlen hm hp2' hvs hzs hxs hys
  by_cases h7 : p1 = q1
  case neg =>
    have HV := Lib.hid (takeV_err b 10 (by rw [HT.out, if_pos h7]))
    have hb : ((p1 : Int) == q1) = false := by rw [beq_eq_false_iff_ne]; omega
    clear HT n3 n4 n5 n6 HV3 HS2 h7 hz hv hr hE hF n2
    go_enter Try.func23, Try.ntmps23
    go_wp2_with fail
    refine (HV1.out _).mono ?_
    rintro e w1 ⟨rfl, rfl⟩
    go_wp2_with fail
    go_quiet (first
      | (go_at_call 41; exact Calls.quiet_of_same (HV2.out _))
      | (go_at_call 42; exact Calls.quiet_of_same (HS1.out _)))
    go_wp2
    go_ret3
    rw [HV.out]
    exact ⟨rfl, _, rfl⟩
  have hb : ((p1 : Int) == q1) = true := by rw [beq_iff_eq]; omega
  have f2 : (E : Int) ≤ 70000 := by omega
  go_enter Try.func23, Try.ntmps23
  go_wp2_with fail
  refine (HV1.out _).mono ?_
  rintro e w1 ⟨rfl, rfl⟩
  go_wp2_with fail
  go_quiet (first
    | (go_at_call 41; exact Calls.quiet_of_same (HV2.out _))
    | (go_at_call 42; exact Calls.quiet_of_same (HS1.out _)))
  obtain ⟨w2, hw2⟩ : ∃ w2, w1.drewN nq = w2 := ⟨_, rfl⟩
  rw [hw2]
  have HD := Lib.hid (show ∃ n, w2 = w1.drewN n from ⟨nq, hw2.symm⟩)
  clear hw2 HV1 HV2 HS1 hx hy n1 hb
  by_cases h8 : m < F
  · have HV := Lib.hid (takeV_err b 2 (by rw [HT.out, if_neg (by omega), if_pos h8]))
    have j8 : (m : Int) < F := by omega
    clear HT h8 HV3 HS2 hz hv hr hE hF n2
    go_wp2
    go_ret3
    rw [HV.out]
    exact ⟨rfl, HD.out⟩
  have j8 : (F : Int) ≤ m := by omega
  have j9 : (E : Int) ≤ F := by omega
  have j10 : (6 : Int) ≤ E := by omega
  have j12 : (E : Int) ≤ m := by omega
  by_cases h9 : 12000 < k
  · have HV := Lib.hid (takeV_err b 10 (by rw [HT.out, if_neg (by omega), if_neg h8, if_pos (Or.inl h9)]))
    have hd : decide ((12000 : Int) < k) = true := decide_eq_true (by omega)
    clear HT h8 HV3 HS2 hz hv hr hE hF n2
    go_wp2_with fail
    go_quiet (fail)
    obtain ⟨w3, hw3⟩ : ∃ w3, w2.drewN nq = w3 := ⟨_, rfl⟩
    rw [hw3]
    have HD3 := Lib.hid (show ∃ n, w3 = w1.drewN n from by obtain ⟨n, h⟩ := HD.out; exact ⟨n + nq, by rw [← hw3, h, World.drewN_drewN]⟩)
    clear hw3
    go_wp2
    go_ret3
    rw [HV.out]
    exact ⟨rfl, HD3.out⟩
  have hd : decide ((12000 : Int) < k) = false := decide_eq_false (by omega)
  by_cases h10 : p2 = q2
  case neg =>
    have HV := Lib.hid (takeV_err b 10 (by rw [HT.out, if_neg (by omega), if_neg h8, if_pos (Or.inr h10)]))
    have hb2 : ((p2 : Int) == q2) = false := by rw [beq_eq_false_iff_ne]; omega
    clear HT h8 h9 h10 hr hE hF
    go_wp2_with fail
    go_quiet (first
      | (go_at_call 41; exact Calls.quiet_of_same (HV3.out _))
      | (go_at_call 42; exact Calls.quiet_of_same (HS2.out _)))
    obtain ⟨w3, hw3⟩ : ∃ w3, w2.drewN nq = w3 := ⟨_, rfl⟩
    rw [hw3]
    have HD3 := Lib.hid (show ∃ n, w3 = w1.drewN n from by obtain ⟨n, h⟩ := HD.out; exact ⟨n + nq, by rw [← hw3, h, World.drewN_drewN]⟩)
    clear hw3
    go_wp2
    go_ret3
    rw [HV.out]
    exact ⟨rfl, HD3.out⟩
  case pos =>
    have HV := Lib.hid (show takeV b = .tuple #[.string z, .string r, .int .i64 0] by
      unfold takeV
      rw [HT.out, if_neg (by omega), if_neg h8, if_neg (by omega)]
      simp only [str_of]
      rfl)
    have hb2 : ((p2 : Int) == q2) = true := by rw [beq_iff_eq]; omega
    clear HT h8 h9 h10 hE hF
    go_wp2_with fail
    go_quiet (first
      | (go_at_call 41; exact Calls.quiet_of_same (HV3.out _))
      | (go_at_call 42; exact Calls.quiet_of_same (HS2.out _)))
    obtain ⟨w3, hw3⟩ : ∃ w3, w2.drewN nq = w3 := ⟨_, rfl⟩
    rw [hw3]
    have HD3 := Lib.hid (show ∃ n, w3 = w1.drewN n from by obtain ⟨n, h⟩ := HD.out; exact ⟨n + nq, by rw [← hw3, h, World.drewN_drewN]⟩)
    clear hw3
    go_wp2_with fail
    go_quiet (fail)
    rename_i nq3
    obtain ⟨w4, hw4⟩ : ∃ w4, w3.drewN nq = w4 := ⟨_, rfl⟩
    rw [hw4]
    have HD4 := Lib.hid (show ∃ n, w4 = w1.drewN n from by obtain ⟨n, h⟩ := HD3.out; exact ⟨n + nq, by rw [← hw4, h, World.drewN_drewN]⟩)
    clear hw4
    go_wp2
    go_ret3
    rw [HV.out]
    exact ⟨rfl, HD4.out⟩
end Go.Proofs.Ytldlfmeppcdbbaa.Crc
