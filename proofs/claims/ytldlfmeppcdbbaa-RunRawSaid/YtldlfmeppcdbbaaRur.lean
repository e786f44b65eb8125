/- The document's files of rows: counted, read page by page. -/
import Derived.Test.YtldlfmeppcdbbaaRum
namespace Go.Proofs.Ytldlfmeppcdbbaa.Run
open Go.RowKit Go.Lib Go.Proofs.Ytldlfmeppcdbbaa.Crc Go.Proofs.Ytldlfmeppcdbbaa.Row Go.Proofs.Ytldlfmeppcdbbaa.Vec

def countS : Option (Nat × List UInt8) → Value
  | some p => .tuple #[.int .i64 (p.1 : Nat), .string ⟨p.2.toArray⟩, .bool true]
  | none => .tuple #[.int .i64 0, .string ⟨#[]⟩, .bool false]
set_option maxHeartbeats 4000000 in
set_option maxRecDepth 100000 in
theorem dcount_any (b : ByteArray) (w : World) (hb : b.size ≤ 1000000) :
    Calls Try.prog 22 #[.string b] w fun e w' => e = .returned (countS (countF b.data.toList)) ∧ Below w.heap.size w w' := by
  have HT := Lib.hid (dtake_is b w (by omega))
  obtain ⟨l, hl⟩ : ∃ l, b.data.toList = l := ⟨_, rfl⟩
  rw [hl]
  by_cases h0 : (takeF l).1 = 0
  case neg =>
    obtain ⟨n, hn⟩ : ∃ n, (takeF l).1 = n := ⟨_, rfl⟩
    have h2 := take_none h0
    have hV : takeV b = .tuple #[.string ⟨#[]⟩, .string ⟨#[]⟩, .int .i64 n] := by unfold takeV; rw [hl, hn, h2.1, h2.2]
    rw [hV] at HT
    have HX := Lib.hid (show countF l = none by unfold countF; rw [if_neg (fun e => h0 e.1)])
    rw [hn] at h0
    have j0 : ¬ (n : Int) = 0 := by omega
    clear hV h2 hn h0 hl
    go_enter Try.func22, Try.ntmps22
    go_wp2_with fail
    refine HT.out.mono ?_
    rintro e w1 ⟨rfl, q, rfl⟩
    go_wp2
    go_ret3
    rw [HX.out]
    exact ⟨rfl, drewN_low w q⟩
  case pos =>
  obtain ⟨z, hz⟩ : ∃ z : ByteArray, ⟨(takeF l).2.1.toArray⟩ = z := ⟨_, rfl⟩
  obtain ⟨u, hu⟩ : ∃ u : ByteArray, ⟨(takeF l).2.2.toArray⟩ = u := ⟨_, rfl⟩
  have hzd : (takeF l).2.1 = z.data.toList := by rw [← hz, Crc.str_data]
  have hV : takeV b = .tuple #[.string z, .string u, .int .i64 0] := by unfold takeV; rw [hl, h0, hz, hu]; rfl
  rw [hV] at HT
  have HX := Lib.hid (show countF l = if (z.data.toList.length = 5 ∧ z.data.toList.take 3 = lep ∧ valA 0 (z.data.toList.drop 3) ≤ 2000) then some (valA 0 (z.data.toList.drop 3), (takeF l).2.2) else none by
    unfold countF; rw [hzd]; simp only [h0, true_and])
  have HU := Lib.hid hu
  obtain ⟨m, hm⟩ : ∃ m, z.size = m := ⟨_, rfl⟩
  have hzm : z.data.toList.length = m := by rw [← Lib.size_eq, hm]
  rw [hzm] at HX
  clear hV hzd hz hu h0 hl
  by_cases h5 : m = 5
  case neg =>
    have j1 : ¬ (m : Int) = 5 := by omega
    have HX2 := Lib.hid (show countF l = none by rw [HX.out, if_neg (fun e => h5 e.1)])
    clear HX h5 hzm
    go_enter Try.func22, Try.ntmps22
    go_wp2_with fail
    refine HT.out.mono ?_
    rintro e w1 ⟨rfl, q, rfl⟩
    go_wp2
    go_ret3
    rw [HX2.out]
    exact ⟨rfl, drewN_low w q⟩
  case pos =>
  subst h5
  obtain ⟨pr, hpr⟩ : ∃ pr, z.extract 0 3 = pr := ⟨_, rfl⟩
  have hprd : pr.data.toList = z.data.toList.take 3 := by rw [← hpr, ext_data, List.drop_zero]
  obtain ⟨v, hv⟩ : ∃ v, z.extract 3 5 = v := ⟨_, rfl⟩
  have hvd : v.data.toList = z.data.toList.drop 3 := by rw [← hv, ← hm, ext_rest]
  have hvs : v.size ≤ 7 := by rw [Lib.size_eq, hvd, List.length_drop, hzm]; decide
  by_cases h3 : z.data.toList.take 3 = lep
  case neg =>
    have j1 : (pr.toList == [76, 69, 80]) = false := by
      cases h : (pr.toList == [76, 69, 80]) with
      | false => rfl
      | true =>
        rw [beq_iff_eq, ByteArray.toList_eq, hprd] at h
        exact absurd h h3
    have HX2 := Lib.hid (show countF l = none by rw [HX.out, if_neg (fun e => h3 e.2.1)])
    clear HX h3 hzm hprd hvd hvs
    go_enter Try.func22, Try.ntmps22
    go_wp2_with fail
    refine HT.out.mono ?_
    rintro e w1 ⟨rfl, q, rfl⟩
    go_wp2
    go_ret3
    rw [HX2.out]
    exact ⟨rfl, drewN_low w q⟩
  case pos =>
    have j1 : (pr.toList == [76, 69, 80]) = true := by rw [beq_iff_eq, ByteArray.toList_eq, hprd, h3]; rfl
    have HV := Lib.hid (fun W => dvalue_is v W hvs)
    rw [hvd] at HV
    obtain ⟨N, hN⟩ : ∃ N, valA 0 (z.data.toList.drop 3) = N := ⟨_, rfl⟩
    rw [hN] at HV HX
    clear hzm hprd hvd hvs hN
    by_cases h2 : N ≤ 2000
    · have j2 : (N : Int) ≤ 2000 := by omega
      have HX2 := Lib.hid (show countF l = some (N, (takeF l).2.2) by rw [HX.out, if_pos ⟨rfl, h3, h2⟩])
      clear HX h3 h2
      go_enter Try.func22, Try.ntmps22
      go_wp2_with fail
      refine HT.out.mono ?_
      rintro e w1 ⟨rfl, q, rfl⟩
      go_wp2_with fail
      refine (HV.out _).mono ?_
      rintro e w2 ⟨rfl, rfl⟩
      go_wp2_with fail
      refine (HV.out _).mono ?_
      rintro e w2 ⟨rfl, rfl⟩
      go_wp2
      go_ret3
      rw [HX2.out, ← HU.out]
      exact ⟨rfl, drewN_low w q⟩
    · have j2 : (2000 : Int) < N := by omega
      have HX2 := Lib.hid (show countF l = none by rw [HX.out, if_neg (fun e => h2 e.2.2)])
      clear HX h3 h2
      go_enter Try.func22, Try.ntmps22
      go_wp2_with fail
      refine HT.out.mono ?_
      rintro e w1 ⟨rfl, q, rfl⟩
      go_wp2_with fail
      refine (HV.out _).mono ?_
      rintro e w2 ⟨rfl, rfl⟩
      go_wp2
      go_ret3
      rw [HX2.out]
      exact ⟨rfl, drewN_low w q⟩
end Go.Proofs.Ytldlfmeppcdbbaa.Run
