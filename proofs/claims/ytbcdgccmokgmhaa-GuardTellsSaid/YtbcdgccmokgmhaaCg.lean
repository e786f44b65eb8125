/- A walk: the first call of the statements on frames. -/
import Derived.Test.YtbcdgccmokgmhaaCf
namespace Go.Proofs.Ytbcdgccmokgmhaa.Crc
open Go.RowKit Go.Lib

theorem takeV_frame (s r : ByteArray) (h : s.size ≤ 12000) : takeV (frameS s ++ r) = .tuple #[.string s, .string r, .int .i64 0] := by
  unfold takeV
  rw [app_data, frameS_data, take_frame _ _ (by rw [← Lib.size_eq]; exact h)]
  simp only [str_of]
  rfl

set_option maxHeartbeats 1000000 in
set_option maxRecDepth 100000 in
theorem alive_any (w : World) : Calls Try.prog 8 #[] w fun e w' => e = .returned (.bool true) ∧ Below w.heap.size w w' := by
  have hsz := frameS_size ⟨#[97]⟩
  have HT0 := takeV_frame ⟨#[97]⟩ ⟨#[120]⟩ (by decide)
  have HF := Lib.hid (frame_any ⟨#[97]⟩ w (by decide))
  obtain ⟨f, hf⟩ : ∃ f, frameS ⟨#[97]⟩ = f := ⟨_, rfl⟩
  rw [hf] at hsz HT0 HF
  have hs11 : f.size = 11 := hsz
  have hq : (f ++ ⟨#[120]⟩ : ByteArray).size ≤ 1099511627776 := by rw [ByteArray.size_append, hs11]; decide
  have HT := Lib.hid (fun W => take_any (f ++ ⟨#[120]⟩) W hq)
  rw [HT0] at HT
  have HO := Lib.hid (fun W => (show Calls Try.prog 13 #[.string ⟨#[]⟩] W fun e w' => e = .returned (.int .u32 4294967295) ∧ w' = W from of_is ⟨#[]⟩ W (by decide)))
  have j1 : ((f.size : Nat) : Int) = 11 := by omega
  clear hf hsz HT0 hq
  go_enter Try.func8, Try.ntmps8
  go_wp2_with fail
  refine HF.out.mono ?_
  rintro e w1 ⟨rfl, b1⟩
  have HB1 := Lib.hid b1
  clear b1
  go_wp2_with fail
  refine (HT.out _).mono ?_
  rintro e w2 ⟨rfl, b2⟩
  have HB2 := Lib.hid (HB1.out.trans (b2.mono HB1.out.size))
  clear b2
  go_wp2_with fail
  refine (HO.out _).mono ?_
  rintro e w3 ⟨rfl, rfl⟩
  go_wp2
  go_ret
  exact ⟨rfl, HB2.out⟩
end Go.Proofs.Ytbcdgccmokgmhaa.Crc
