/- Walks: frames are taken, one by one or all; the first call of the statements on frames. -/
import Derived.Test.YtldlfmeppcdbbaaCe
import Derived.Laws.OwnMore
import Derived.OwnWalk
namespace Go.Proofs.Ytldlfmeppcdbbaa.Crc
open Go.RowKit Go.Lib

/-- What is told of a frame that is taken. -/
def takeV (b : ByteArray) : Value := .tuple #[.string ⟨(takeF b.data.toList).2.1.toArray⟩, .string ⟨(takeF b.data.toList).2.2.toArray⟩, .int .i64 ((takeF b.data.toList).1 : Nat)]
theorem take_small (b : List UInt8) : (takeF b).1 = 0 ∨ (takeF b).1 = 2 ∨ (takeF b).1 = 10 := by
  unfold takeF
  repeat' split
  all_goals simp [ErrForm, ErrCorrupt]
theorem take_rest {b : List UInt8} (h : (takeF b).1 = 0) : (takeF b).2.2 = b.drop ((takeF b).2.1.length + 10) ∧ (takeF b).2.1.length + 10 ≤ b.length := by
  revert h
  unfold takeF
  repeat' split
  all_goals simp [ErrForm, ErrCorrupt]
  all_goals (rename_i h1 h2 h3 h4; exact ⟨by rw [Nat.min_eq_left (a := valA 0 (List.take 2 b)) (by omega)]; omega, by omega⟩)

set_option maxHeartbeats 1000000 in
set_option maxRecDepth 100000 in
theorem take_any (b : ByteArray) (w : World) (hm : b.size ≤ 1099511627776) :
    Calls Try.prog 52 #[.string b] w fun e w' => e = .returned (takeV b) ∧ Below w.heap.size w w' := by
  have HF := Lib.hid (fun W => first_any b W hm)
  obtain ⟨m, hsz⟩ : ∃ m, b.size = m := ⟨_, rfl⟩
  have hlen : b.data.toList.length = m := by rw [← Lib.size_eq]; exact hsz
  by_cases h0 : (takeF b.data.toList).1 = 0
  case neg =>
    obtain ⟨n, hn⟩ : ∃ n, (takeF b.data.toList).1 = n := ⟨_, rfl⟩
    rw [hn] at h0
    have h1 := take_none (b := b.data.toList) (by rw [hn]; exact h0)
    have he : takeF b.data.toList = (n, [], []) := by rw [← hn]; exact Prod.ext rfl (Prod.ext h1.1 h1.2)
    have HV := Lib.hid (show takeV b = .tuple #[.string ⟨#[]⟩, .string ⟨#[]⟩, .int .i64 n] by unfold takeV; rw [he])
    rw [firstV_err b n h0 he] at HF
    have j0 : ¬ (n : Int) = 0 := by omega
    clear hn h1 he h0 hlen hsz hm
    go_enter Try.func52, Try.ntmps52
    go_wp2_with fail
    refine (HF.out _).mono ?_
    rintro e w1 ⟨rfl, b1⟩
    have HB1 := Lib.hid b1
    clear b1
    go_wp2
    go_ret3
    rw [HV.out]
    exact ⟨rfl, HB1.out⟩
  case pos =>
    obtain ⟨hr, hl⟩ := take_rest h0
    obtain ⟨z, hz⟩ : ∃ z : ByteArray, ⟨(takeF b.data.toList).2.1.toArray⟩ = z := ⟨_, rfl⟩
    obtain ⟨N, hN⟩ : ∃ N, (takeF b.data.toList).2.1.length + 10 = N := ⟨_, rfl⟩
    have hzs : z.size ≤ 1099511627776 := by rw [← hz, str_size]; omega
    rw [hN] at hl hr
    obtain ⟨u, hu⟩ : ∃ u, b.extract N m = u := ⟨_, rfl⟩
    have hud : u.data.toList = b.data.toList.drop N := by rw [← hu, ← hsz, ext_rest]
    have hus : u.size ≤ 1099511627776 := by rw [Lib.size_eq, hud, List.length_drop]; omega
    have HV := Lib.hid (show takeV b = .tuple #[.string z, .string u, .int .i64 0] by
      unfold takeV; rw [h0, hr, ← hud, str_of, hz]; rfl)
    have HW := Lib.hid (show firstV b = .tuple #[.string z, .int .i64 N, .int .i64 0] by
      unfold firstV; rw [h0, if_pos rfl, hN, hz]; rfl)
    rw [HW.out] at HF
    have HC1 := Lib.hid (fun W (hb : Below w.heap.size w W) => (show Calls Try.prog 65 #[.string z] W fun e w' => e = .returned (.string z) ∧ Hid (Below w.heap.size w w') from (clone_any z W (by omega)).mono fun e w' ⟨h1, h2⟩ => ⟨h1, hb.trans (h2.mono hb.size)⟩))
    have HC2 := Lib.hid (fun W (hb : Below w.heap.size w W) => (show Calls Try.prog 65 #[.string u] W fun e w' => e = .returned (.string u) ∧ Hid (Below w.heap.size w w') from (clone_any u W (by omega)).mono fun e w' ⟨h1, h2⟩ => ⟨h1, hb.trans (h2.mono hb.size)⟩))
    have j1 : (N : Int) ≤ m := by omega
    have j2 : (m : Int) ≤ 1099511627776 := by omega
    clear hr hl hz hN hzs hud hus h0 hlen hm HW
    go_enter Try.func52, Try.ntmps52
    go_wp2_with fail
    refine (HF.out _).mono ?_
    rintro e w1 ⟨rfl, b1⟩
    have HB1 := Lib.hid b1
    clear b1
    go_wp2_with fail
    have HBd := Lib.hid HB1.out.drew
    go_region_held3 (fun W => Hid (Below w.heap.size w W)) (first | exact hba | exact hbb | exact HBd) (first
      | (go_at_call 65; refine (HC1.out _ (by first | exact HBd.out | exact hbb.out)).mono ?_; rintro e wa ⟨rfl, hba⟩)
      | (go_at_call 65; refine (HC2.out _ (by first | exact HBd.out | exact hba.out)).mono ?_; rintro e wa ⟨rfl, hbb⟩))
    have HBe := Lib.hid hbb.out
    clear hba hbb HBd HB1
    go_wp2
    go_ret3
    rw [HV.out]
    exact ⟨rfl, HBe.out⟩
end Go.Proofs.Ytldlfmeppcdbbaa.Crc
