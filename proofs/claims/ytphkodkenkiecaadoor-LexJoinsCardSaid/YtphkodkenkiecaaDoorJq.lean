/- A walk: the statement on numbers. -/
import Derived.Test.YtphkodkenkiecaaDoorJp
import Derived.Deep.RegionHeld3
import Derived.Deep.DeepFit
namespace Go.Proofs.YtphkodkenkiecaaDoor
open Go.RowKit

theorem words_gen (s : ByteArray) (hs : s.size ≤ 600) (w : World) (h : Env w) :
    Calls Tryd.prog 8 #[.string s] w fun e w' => (∃ o n c x, e = .returned (.tuple #[.slice o n c, .int .i64 x])) ∧ Below w.heap.size w w' := by
  cases hl : lexL s.data.toList with
  | none => exact (words_none s hl hs w h).mono fun e w' ⟨he, hb⟩ => ⟨⟨none, 0, 0, 2, he⟩, hb⟩
  | some ws => exact (words_some s ws hl hs w h).mono fun e w' ⟨⟨o, c, he, _⟩, hb⟩ => ⟨⟨o, _, c, 0, he⟩, hb⟩
theorem three_data (a b c : ByteArray) : (a ++ b ++ c).data.toList = a.data.toList ++ b.data.toList ++ c.data.toList := by
  rw [ByteArray.data_append, ByteArray.data_append, Array.toList_append, Array.toList_append]
theorem empty_of {u : ByteArray} (h : u.data.toList = []) : u = ⟨#[]⟩ := by cases u with | mk d => cases d with | mk l => simp at h; rw [h]
theorem one_of {u : ByteArray} {c : UInt8} (h : u.data.toList = [c]) : u = ⟨#[c]⟩ := by cases u with | mk d => cases d with | mk l => simp at h; rw [h]

set_option maxHeartbeats 8000000 in
set_option maxRecDepth 100000 in
theorem numbers_any (v z : Int) (u : ByteArray) (w : World) (h : Env w) (hv : -9223372036854775808 ≤ v ∧ v ≤ 9223372036854775807) (hz : -9223372036854775808 ≤ z ∧ z ≤ 9223372036854775807) (hu : u.size ≤ maxLen) :
    Calls Tryd.prog 5 #[.int .i64 v, .int .i64 z, .string u] w fun e w' => e = .returned (.bool true) ∧ Below w.heap.size w w' := by
  unfold maxLen at hu
  have HE := Lib.hid h
  have cA := Lib.hid (fun W (hb : Below w.heap.size w W) => alive_any W (h.below hb))
  obtain ⟨v0, v1⟩ := hv
  obtain ⟨z0, z1⟩ := hz
  by_cases hbad : v < 0 ∨ z < 0 ∨ 20 < z ∨ 3 < u.size
  · have i1 : v < 0 ∨ (0 ≤ v ∧ z < 0) ∨ (0 ≤ v ∧ 0 ≤ z ∧ 20 < z) ∨ (0 ≤ v ∧ 0 ≤ z ∧ z ≤ 20 ∧ (3 : Int) < u.size) := by omega
    clear hbad h
    rcases i1 with i1 | ⟨i1, i2⟩ | ⟨i1, i2, i3⟩ | ⟨i1, i2, i3, i4⟩
    all_goals
      go_enter Tryd.func5, Tryd.ntmps5
      go_wp2_with (go_at_call 7; refine (cA.out _ (Below.refl _ _)).mono ?_; rintro e w1 ⟨rfl, b1⟩)
      go_ret
      exact ⟨rfl, b1⟩
  · obtain ⟨vn, rfl⟩ := Int.eq_ofNat_of_zero_le (show 0 ≤ v by omega)
    obtain ⟨zn, rfl⟩ := Int.eq_ofNat_of_zero_le (show 0 ≤ z by omega)
    have i3 : (zn : Int) ≤ 20 := by omega
    have i4 : (u.size : Int) ≤ 3 := by omega
    have i5 : (0 : Int) ≤ vn := by omega
    have i6 : (0 : Int) ≤ zn := by omega
    have cD := Lib.hid (fun (n : Nat) W h => rdigits_any n h W)
    obtain ⟨db, hdb⟩ : ∃ db : ByteArray, db = ⟨(Lib.decDigits vn).toArray⟩ := ⟨_, rfl⟩
    have hdd : db.data.toList = Lib.decDigits vn := by rw [hdb]
    have hds : db.size ≤ 20 := by
      have := Lib.nDigits_le20 vn (by omega)
      rw [← Lib.decDigits_length, ← hdd, ← Lib.size_eq] at this; exact this
    have cV := Lib.hid (fun W => (rdigits_any vn (by omega) W).mono (R' := fun e w' => e = .returned (.string db) ∧ Below W.heap.size W w') (fun e w' ⟨h1, h2⟩ => ⟨by rw [h1, hdb], h2⟩))
    have HDD := Lib.hid hdd
    have i7 : (db.size : Int) ≤ 20 := by omega
    clear hbad h hdd hdb z0 z1 v0
    go_enter Tryd.func5, Tryd.ntmps5
    go_wp2_with fail
    refine (cA.out _ (Below.refl _ _)).mono ?_
    rintro e w1 ⟨rfl, b1⟩
    have B1 := Lib.hid b1
    clear b1
    go_wp2_with fail
    refine (cV.out _).mono ?_
    rintro e w2 ⟨rfl, b2⟩
    have B2 := Lib.hid (B1.out.trans (b2.mono B1.out.size))
    clear b2 B1
    go_wp2
    go_loop [8, 9] (fun v8 v9 => ∃ (k : Nat) (t : ByteArray), v9 = .int .i64 k ∧ v8 = .string t ∧ Hid (t.data.toList = List.replicate k 48) ∧ k ≤ zn ∧ t.size = k) (fun _ v9 => zn - (intOf v9).toNat)
    case atStart => exact ⟨0, ⟨#[]⟩, rfl, rfl, rfl, Nat.zero_le _, rfl⟩
    case round =>
      obtain ⟨k, t, rfl, rfl, HT, hk, hts⟩ := hrel
      by_cases hkz : k < zn
      · have j1 : (k : Int) < zn := by omega
        have j2 : (t.size : Int) ≤ 20 := by omega
        have H2 := Lib.hid (show (t ++ (⟨#[48]⟩ : ByteArray)).data.toList = List.replicate (k + 1) 48 by rw [ByteArray.data_append, Array.toList_append, HT.out, List.replicate_succ'])
        have H3 := Lib.hid (show (t ++ (⟨#[48]⟩ : ByteArray)).size = k + 1 by rw [ByteArray.size_append, hts]; rfl)
        clear hts
        go_wp2
        go_round
        case rel => exact ⟨k + 1, _, by go_num, rfl, H2, by omega, H3.out⟩
        case measure => simp [intOf]; omega
      · obtain rfl : k = zn := by omega
        have j1 : (t.size : Int) ≤ 20 := by omega
        have hzd : t.data.toList ++ db.data.toList = zdL k vn := by rw [HT.out, HDD.out]; rfl
        have HTd := Lib.hid (show (t ++ db ++ u).data.toList = zdL k vn ++ u.data.toList by rw [three_data, hzd])
        have hzl : (zdL k vn).length = t.size + db.size := by rw [← hzd, List.length_append, ← Lib.size_eq, ← Lib.size_eq]
        have hTs : (t ++ db ++ u).size ≤ 600 := by rw [ByteArray.size_append, ByteArray.size_append]; omega
        clear hkz hk hzd
        by_cases hg : 13 < t.size + db.size ∨ 1000000000000 < vn
        · have cW := Lib.hid (fun W (hb : Below w.heap.size w W) => words_none (t ++ db ++ u) (by rw [HTd.out]; exact numbers_great k vn _ (by rw [hzl]; exact hg)) hTs W (HE.out.below hb))
          have hg2 : 13 < (t.size : Int) + db.size ∨ ((t.size : Int) + db.size ≤ 13 ∧ (1000000000000 : Int) < vn) := by omega
          clear hg hzl hTs hts
          go_wp2_with fail
          refine (cW.out _ B2.out).mono ?_
          rintro e w3 ⟨rfl, b3⟩
          have B3 := Lib.hid (B2.out.trans (b3.mono B2.out.size))
          clear b3
          rcases hg2 with hg2 | ⟨hg2, hg3⟩
          all_goals
            go_wp2
            all_goals go_ret
            all_goals exact ⟨rfl, B3.out⟩
        · have hg2 : (t.size : Int) + db.size ≤ 13 := by omega
          have hg3 : (vn : Int) ≤ 1000000000000 := by omega
          have hg4 : (zdL k vn).length ≤ 13 := by rw [hzl]; omega
          have hg5 : vn ≤ 1000000000000 := by omega
          by_cases hu0 : u.data.toList = []
          · have hu1 := empty_of hu0
            subst hu1
            have cW := Lib.hid (fun W (hb : Below w.heap.size w W) => words_some (t ++ db ++ ⟨#[]⟩) [(2, 0, Lib.decDigits vn)] (by rw [HTd.out, List.append_nil]; exact numbers_plain k vn hg4 hg5) hTs W (HE.out.below hb))
            have HDB := Lib.hid (show (⟨(Lib.decDigits vn).toArray⟩ : ByteArray) = db by rw [← HDD.out, str_of])
            clear hg hzl hTs hts hg4 hg5 hu0
            go_wp2_with fail
            refine (cW.out _ B2.out).mono ?_
            rintro e w3 ⟨⟨o, cc, rfl, hS⟩, b3⟩
            have B3 := Lib.hid (B2.out.trans (b3.mono B2.out.size))
            clear b3
            obtain ⟨p1, f1, rfl, hp1, hc1⟩ := hS.open (by simp)
            obtain ⟨l0, l1, l2⟩ := hc1 0 _ rfl
            clear hc1 hS
            dsimp only at l0 l1 l2
            simp only [Nat.zero_mul, Nat.add_zero] at l0 l1 l2
            rw [HDB.out] at l2
            go_wp2
            go_ret
            exact ⟨rfl, B3.out⟩
          by_cases hu115 : u.data.toList = [115]
          · have hu1 := one_of hu115
            subst hu1
            have HL := Lib.hid (numbers_unit k vn 1 115 (by decide) (by decide +kernel) (by decide) (by decide) hg4 hg5)
            have hle : vn * 1 ≤ 3600000000000000 := by omega
            by_cases hg6 : 1000000000 < vn * 1
            · have cW := Lib.hid (fun W (hb : Below w.heap.size w W) => words_none (t ++ db ++ ⟨#[115]⟩) (by rw [HTd.out]; rw [show (⟨#[115]⟩ : ByteArray).data.toList = [115] from rfl, HL.out, if_pos hg6]) hTs W (HE.out.below hb))
              have hq : (1000000000 : Int) / 1 < vn := by omega
              have hq2 : (1000000000 : Int) < vn := by omega
              clear hg hzl hTs hts hg4 hg5 hu0 hu115 HL hle hg6
              go_wp2_with fail
              refine (cW.out _ B2.out).mono ?_
              rintro e w3 ⟨rfl, b3⟩
              have B3 := Lib.hid (B2.out.trans (b3.mono B2.out.size))
              clear b3
              go_wp2
              go_ret
              exact ⟨rfl, B3.out⟩
            · have cW := Lib.hid (fun W (hb : Below w.heap.size w W) => words_some (t ++ db ++ ⟨#[115]⟩) [(4, 0, Lib.decDigits (vn * 1))] (by rw [HTd.out]; rw [show (⟨#[115]⟩ : ByteArray).data.toList = [115] from rfl, HL.out, if_neg hg6]) hTs W (HE.out.below hb))
              rw [Nat.mul_one] at cW
              have SW := Lib.hid (show IntKind.i64.wrap (vn : Int) = (vn : Int) from IntWalk.i64_in _ (by omega))
              have hq2 : (vn : Int) ≤ 1000000000 := by omega
              have hp2 : vn ≤ 9223372036854775807 := by omega
              clear hg hzl hTs hts hg4 hg5 hu0 hu115 HL hle hg6
              go_wp2_with fail
              refine (cW.out _ B2.out).mono ?_
              rintro e w3 ⟨⟨o, cc, rfl, hS⟩, b3⟩
              have B3 := Lib.hid (B2.out.trans (b3.mono B2.out.size))
              clear b3
              obtain ⟨p1, f1, rfl, hp1, hc1⟩ := hS.open (by simp)
              obtain ⟨l0, l1, l2⟩ := hc1 0 _ rfl
              clear hc1 hS
              dsimp only at l0 l1 l2
              simp only [Nat.zero_mul, Nat.add_zero] at l0 l1 l2
              have sw := SW.out
              have r3 := Lib.hid (show Below w3.heap.size w3 w3.drew from (Below.refl _ _).drew)
              have HR := Lib.hid (And.intro l0 (And.intro l1 l2))
              have HP := Lib.hid hp1
              have HC := Lib.hid (fun (W : World) (h : Hid (Below w3.heap.size w3 W)) => (cD.out vn W hp2).mono (fun e w' q => show e = .returned (.string ⟨(Lib.decDigits vn).toArray⟩) ∧ w'.cell? ⟨p1, f1, none⟩ = some (.int .i64 (4 : Nat)) ∧ w'.cell? ⟨p1, f1 + 1, none⟩ = some (.int .i64 (0 : Nat)) ∧ w'.cell? ⟨p1, f1 + 2, none⟩ = some (.string ⟨(Lib.decDigits vn).toArray⟩) ∧ Hid (Below w3.heap.size w3 w') from
                have hb := h.out.trans (q.2.mono h.out.size)
                ⟨q.1, (hb.cell (p := ⟨p1, f1, none⟩) HP.out).trans HR.out.1, (hb.cell (p := ⟨p1, f1 + 1, none⟩) HP.out).trans HR.out.2.1, (hb.cell (p := ⟨p1, f1 + 2, none⟩) HP.out).trans HR.out.2.2, hb⟩))
              go_wp2_with fail
              go_region_held3 (fun w' => w'.cell? ⟨p1, f1, none⟩ = some (.int .i64 (4 : Nat)) ∧ w'.cell? ⟨p1, f1 + 1, none⟩ = some (.int .i64 (0 : Nat)) ∧ w'.cell? ⟨p1, f1 + 2, none⟩ = some (.string ⟨(Lib.decDigits vn).toArray⟩)) (first | exact ⟨s1, s2, s3⟩ | exact ⟨l0, l1, l2⟩) (first | (go_at_call 11; go_fit (HC.out _ r3); rintro e wq ⟨rfl, s1, s2, s3, s4⟩))
              go_wp2
              go_ret
              exact ⟨rfl, B3.out.trans (s4.out.mono B3.out.size)⟩
          by_cases hu109 : u.data.toList = [109]
          · have hu1 := one_of hu109
            subst hu1
            have HL := Lib.hid (numbers_unit k vn 60 109 (by decide) (by decide +kernel) (by decide) (by decide) hg4 hg5)
            have hle : vn * 60 ≤ 3600000000000000 := by omega
            by_cases hg6 : 1000000000 < vn * 60
            · have cW := Lib.hid (fun W (hb : Below w.heap.size w W) => words_none (t ++ db ++ ⟨#[109]⟩) (by rw [HTd.out]; rw [show (⟨#[109]⟩ : ByteArray).data.toList = [109] from rfl, HL.out, if_pos hg6]) hTs W (HE.out.below hb))
              have hq : (1000000000 : Int) / 60 < vn := by omega
              have hq2 : (16666666 : Int) < vn := by omega
              clear hg hzl hTs hts hg4 hg5 hu0 hu109 HL hle hg6
              go_wp2_with fail
              refine (cW.out _ B2.out).mono ?_
              rintro e w3 ⟨rfl, b3⟩
              have B3 := Lib.hid (B2.out.trans (b3.mono B2.out.size))
              clear b3
              go_wp2
              go_ret
              exact ⟨rfl, B3.out⟩
            · have cW := Lib.hid (fun W (hb : Below w.heap.size w W) => words_some (t ++ db ++ ⟨#[109]⟩) [(4, 0, Lib.decDigits (vn * 60))] (by rw [HTd.out]; rw [show (⟨#[109]⟩ : ByteArray).data.toList = [109] from rfl, HL.out, if_neg hg6]) hTs W (HE.out.below hb))
              obtain ⟨p, hp⟩ : ∃ p, vn * 60 = p := ⟨_, rfl⟩
              have SM := Lib.hid (show (vn : Int) * 60 = (p : Int) by omega)
              have SW := Lib.hid (show IntKind.i64.wrap (p : Int) = (p : Int) from IntWalk.i64_in _ (by omega))
              rw [hp] at cW
              have hq2 : (vn : Int) ≤ 16666666 := by omega
              have hp2 : p ≤ 9223372036854775807 := by omega
              clear hg hzl hTs hts hg4 hg5 hu0 hu109 HL hle hg6 hp
              go_wp2_with fail
              refine (cW.out _ B2.out).mono ?_
              rintro e w3 ⟨⟨o, cc, rfl, hS⟩, b3⟩
              have B3 := Lib.hid (B2.out.trans (b3.mono B2.out.size))
              clear b3
              obtain ⟨p1, f1, rfl, hp1, hc1⟩ := hS.open (by simp)
              obtain ⟨l0, l1, l2⟩ := hc1 0 _ rfl
              clear hc1 hS
              dsimp only at l0 l1 l2
              simp only [Nat.zero_mul, Nat.add_zero] at l0 l1 l2
              have sm := SM.out
              have sw := SW.out
              have r3 := Lib.hid (show Below w3.heap.size w3 w3.drew from (Below.refl _ _).drew)
              have HR := Lib.hid (And.intro l0 (And.intro l1 l2))
              have HP := Lib.hid hp1
              have HC := Lib.hid (fun (W : World) (h : Hid (Below w3.heap.size w3 W)) => (cD.out p W hp2).mono (fun e w' q => show e = .returned (.string ⟨(Lib.decDigits p).toArray⟩) ∧ w'.cell? ⟨p1, f1, none⟩ = some (.int .i64 (4 : Nat)) ∧ w'.cell? ⟨p1, f1 + 1, none⟩ = some (.int .i64 (0 : Nat)) ∧ w'.cell? ⟨p1, f1 + 2, none⟩ = some (.string ⟨(Lib.decDigits p).toArray⟩) ∧ Hid (Below w3.heap.size w3 w') from
                have hb := h.out.trans (q.2.mono h.out.size)
                ⟨q.1, (hb.cell (p := ⟨p1, f1, none⟩) HP.out).trans HR.out.1, (hb.cell (p := ⟨p1, f1 + 1, none⟩) HP.out).trans HR.out.2.1, (hb.cell (p := ⟨p1, f1 + 2, none⟩) HP.out).trans HR.out.2.2, hb⟩))
              go_wp2_with fail
              go_region_held3 (fun w' => w'.cell? ⟨p1, f1, none⟩ = some (.int .i64 (4 : Nat)) ∧ w'.cell? ⟨p1, f1 + 1, none⟩ = some (.int .i64 (0 : Nat)) ∧ w'.cell? ⟨p1, f1 + 2, none⟩ = some (.string ⟨(Lib.decDigits p).toArray⟩)) (first | exact ⟨s1, s2, s3⟩ | exact ⟨l0, l1, l2⟩) (first | (go_at_call 11; go_fit (HC.out _ r3); rintro e wq ⟨rfl, s1, s2, s3, s4⟩))
              go_wp2
              go_ret
              exact ⟨rfl, B3.out.trans (s4.out.mono B3.out.size)⟩
          by_cases hu104 : u.data.toList = [104]
          · have hu1 := one_of hu104
            subst hu1
            have HL := Lib.hid (numbers_unit k vn 3600 104 (by decide) (by decide +kernel) (by decide) (by decide) hg4 hg5)
            have hle : vn * 3600 ≤ 3600000000000000 := by omega
            by_cases hg6 : 1000000000 < vn * 3600
            · have cW := Lib.hid (fun W (hb : Below w.heap.size w W) => words_none (t ++ db ++ ⟨#[104]⟩) (by rw [HTd.out]; rw [show (⟨#[104]⟩ : ByteArray).data.toList = [104] from rfl, HL.out, if_pos hg6]) hTs W (HE.out.below hb))
              have hq : (1000000000 : Int) / 3600 < vn := by omega
              have hq2 : (277777 : Int) < vn := by omega
              clear hg hzl hTs hts hg4 hg5 hu0 hu104 HL hle hg6
              go_wp2_with fail
              refine (cW.out _ B2.out).mono ?_
              rintro e w3 ⟨rfl, b3⟩
              have B3 := Lib.hid (B2.out.trans (b3.mono B2.out.size))
              clear b3
              go_wp2
              go_ret
              exact ⟨rfl, B3.out⟩
            · have cW := Lib.hid (fun W (hb : Below w.heap.size w W) => words_some (t ++ db ++ ⟨#[104]⟩) [(4, 0, Lib.decDigits (vn * 3600))] (by rw [HTd.out]; rw [show (⟨#[104]⟩ : ByteArray).data.toList = [104] from rfl, HL.out, if_neg hg6]) hTs W (HE.out.below hb))
              obtain ⟨p, hp⟩ : ∃ p, vn * 3600 = p := ⟨_, rfl⟩
              have SM := Lib.hid (show (vn : Int) * 3600 = (p : Int) by omega)
              have SW := Lib.hid (show IntKind.i64.wrap (p : Int) = (p : Int) from IntWalk.i64_in _ (by omega))
              rw [hp] at cW
              have hq2 : (vn : Int) ≤ 277777 := by omega
              have hp2 : p ≤ 9223372036854775807 := by omega
              clear hg hzl hTs hts hg4 hg5 hu0 hu104 HL hle hg6 hp
              go_wp2_with fail
              refine (cW.out _ B2.out).mono ?_
              rintro e w3 ⟨⟨o, cc, rfl, hS⟩, b3⟩
              have B3 := Lib.hid (B2.out.trans (b3.mono B2.out.size))
              clear b3
              obtain ⟨p1, f1, rfl, hp1, hc1⟩ := hS.open (by simp)
              obtain ⟨l0, l1, l2⟩ := hc1 0 _ rfl
              clear hc1 hS
              dsimp only at l0 l1 l2
              simp only [Nat.zero_mul, Nat.add_zero] at l0 l1 l2
              have sm := SM.out
              have sw := SW.out
              have r3 := Lib.hid (show Below w3.heap.size w3 w3.drew from (Below.refl _ _).drew)
              have HR := Lib.hid (And.intro l0 (And.intro l1 l2))
              have HP := Lib.hid hp1
              have HC := Lib.hid (fun (W : World) (h : Hid (Below w3.heap.size w3 W)) => (cD.out p W hp2).mono (fun e w' q => show e = .returned (.string ⟨(Lib.decDigits p).toArray⟩) ∧ w'.cell? ⟨p1, f1, none⟩ = some (.int .i64 (4 : Nat)) ∧ w'.cell? ⟨p1, f1 + 1, none⟩ = some (.int .i64 (0 : Nat)) ∧ w'.cell? ⟨p1, f1 + 2, none⟩ = some (.string ⟨(Lib.decDigits p).toArray⟩) ∧ Hid (Below w3.heap.size w3 w') from
                have hb := h.out.trans (q.2.mono h.out.size)
                ⟨q.1, (hb.cell (p := ⟨p1, f1, none⟩) HP.out).trans HR.out.1, (hb.cell (p := ⟨p1, f1 + 1, none⟩) HP.out).trans HR.out.2.1, (hb.cell (p := ⟨p1, f1 + 2, none⟩) HP.out).trans HR.out.2.2, hb⟩))
              go_wp2_with fail
              go_region_held3 (fun w' => w'.cell? ⟨p1, f1, none⟩ = some (.int .i64 (4 : Nat)) ∧ w'.cell? ⟨p1, f1 + 1, none⟩ = some (.int .i64 (0 : Nat)) ∧ w'.cell? ⟨p1, f1 + 2, none⟩ = some (.string ⟨(Lib.decDigits p).toArray⟩)) (first | exact ⟨s1, s2, s3⟩ | exact ⟨l0, l1, l2⟩) (first | (go_at_call 11; go_fit (HC.out _ r3); rintro e wq ⟨rfl, s1, s2, s3, s4⟩))
              go_wp2
              go_ret
              exact ⟨rfl, B3.out.trans (s4.out.mono B3.out.size)⟩
          have cW := Lib.hid (fun W (hb : Below w.heap.size w W) => words_gen (t ++ db ++ u) hTs W (HE.out.below hb))
          have n0 : ¬ u.toList = [] := by rw [ByteArray.toList_eq]; exact hu0
          have n0' : u.toList.isEmpty = false := by simpa using n0
          have m1 : (u.toList == [115]) = false := by rw [ByteArray.toList_eq]; simpa using hu115
          have m2 : (u.toList == [109]) = false := by rw [ByteArray.toList_eq]; simpa using hu109
          have m3 : (u.toList == [104]) = false := by rw [ByteArray.toList_eq]; simpa using hu104
          have n1 : ¬ u.toList = [115] := by rw [ByteArray.toList_eq]; exact hu115
          have n2 : ¬ u.toList = [109] := by rw [ByteArray.toList_eq]; exact hu109
          have n3 : ¬ u.toList = [104] := by rw [ByteArray.toList_eq]; exact hu104
          clear hg hzl hTs hts hg4 hg5 hu0 hu115 hu109 hu104
          go_wp2_with fail
          refine (cW.out _ B2.out).mono ?_
          rintro e w3 ⟨⟨o, n, cc, x, rfl⟩, b3⟩
          have B3 := Lib.hid (B2.out.trans (b3.mono B2.out.size))
          clear b3
          go_wp2
          go_ret
          exact ⟨rfl, B3.out⟩
end Go.Proofs.YtphkodkenkiecaaDoor
