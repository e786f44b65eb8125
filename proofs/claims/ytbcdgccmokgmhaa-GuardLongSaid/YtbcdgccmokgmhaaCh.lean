/- The law: frames have just so many bytes at most. -/
import Derived.Test.YtbcdgccmokgmhaaCg
import Derived.Deep.OwnRows
namespace Go.Proofs.Ytbcdgccmokgmhaa.Crc
open Go.RowKit Go.Lib

theorem addA (b j : Nat) : (⟨b, 0, none⟩ : Addr).add j = ⟨b, j, none⟩ := by
  unfold Addr.add
  split
  · next h => subst h; rfl
  · rw [Nat.zero_add]
theorem infoB : (Try.prog.info? 5).map (fun i => (i.zero, i.size, i.bytes)) = some (some (.int .u8 0), 1, 1) := by kernel_rfl
/-- So many zeros. -/
def zeroS (n : Nat) : ByteArray := ⟨(List.replicate n (0 : UInt8)).toArray⟩
theorem zeroS_size (n : Nat) : (zeroS n).size = n := by unfold zeroS; rw [str_size, List.length_replicate]

set_option maxHeartbeats 2000000 in
set_option maxRecDepth 100000 in
theorem long_any (a : Int) (w : World) :
    Calls Try.prog 7 #[.int .i64 a] w fun e w' => e = .returned (.bool true) ∧ Below w.heap.size w w' := by
  have HA := Lib.hid (fun W => alive_any W)
  by_cases h0 : a < 0
  · have hd : decide (a < 0) = true := decide_eq_true h0
    go_enter Try.func7, Try.ntmps7
    go_wp2_with fail
    refine (HA.out _).mono ?_
    rintro e w1 ⟨rfl, b1⟩
    have HB1 := Lib.hid b1
    clear b1
    go_wp2
    go_ret
    exact ⟨rfl, HB1.out⟩
  by_cases h1 : 20000 < a
  · go_enter Try.func7, Try.ntmps7
    go_wp2_with fail
    refine (HA.out _).mono ?_
    rintro e w1 ⟨rfl, b1⟩
    have HB1 := Lib.hid b1
    clear b1
    go_wp2
    go_ret
    exact ⟨rfl, HB1.out⟩
  obtain ⟨n, rfl⟩ : ∃ n : Nat, a = n := ⟨a.toNat, by omega⟩
  have hn : n ≤ 20000 := by omega
  have i1 : (n : Int) ≤ 20000 := by omega
  have i2 : (0 : Int) ≤ n := by omega
  clear h0 h1
  obtain ⟨i0, hi, hz0, hz1, hz2⟩ := info_parts infoB
  obtain ⟨z, hz⟩ : ∃ z, zeroS n = z := ⟨_, rfl⟩
  have hzs : z.size = n := by rw [← hz]; exact zeroS_size n
  have hconv : ∀ (W : World), (convert 50 9 (.slice (some ⟨W.heap.size, 0, none⟩) n n)).run Try.prog (W.alloc (.cells (madeCells #[.int .u8 0] n) 5)) = .ok (.string z) (W.alloc (.cells (madeCells #[.int .u8 0] n) 5)) := fun W => by
    have hr := World.rowIs_made W (.int .u8 0) n 5
    have h := run_convert_bytes_back (P := Try.prog) (W.alloc (.cells (madeCells #[.int .u8 0] n) 5)) 50 9 5 ⟨W.heap.size, 0, none⟩ n (List.replicate n (0 : UInt8)) Try.underlying50 Try.underlying5 Try.underlying9 (fun j hj => by
      rw [List.length_replicate] at hj
      rw [addA, hr.cell hj, List.getElem_replicate]; rfl)
    rw [List.length_replicate] at h
    rw [← hz]; exact h
  have HB := Lib.hid (fun (W : World) (hb : Below w.heap.size w W) => (show Below w.heap.size w (W.alloc (.cells (madeCells #[.int .u8 0] n) 5)) from hb.alloc hb.size _))
  clear hz
  go_enter Try.func7, Try.ntmps7
  go_wp2_with fail
  refine (HA.out _).mono ?_
  rintro e w1 ⟨rfl, b1⟩
  have HB1 := Lib.hid b1
  clear b1
  go_wp2_with (first | (at_make; refine wpList_make_row _ rfl _ _ 50 rfl 5 i0 (.int .u8 0) Try.underlying50 hi hz0 hz1 rfl .i64 .i64 n rfl rfl (by rw [hz2]; omega) (by omega) ?_) | fail)
  have HB2 := Lib.hid (HB.out _ HB1.out)
  by_cases h2 : n ≤ 12000
  · have HF := Lib.hid (fun W => frame_any z W (by omega))
    have HT := Lib.hid (fun W => take_any (frameS z) W (by rw [frameS_size]; omega))
    rw [show frameS z = frameS z ++ ⟨#[]⟩ from bytes_same (by rw [app_data]; simp), takeV_frame z ⟨#[]⟩ (by omega), ← show frameS z = frameS z ++ ⟨#[]⟩ from bytes_same (by rw [app_data]; simp)] at HT
    have hfs := frameS_size z
    rw [hzs] at hfs
    generalize frameS z = f at HF HT hfs
    have i3 : (n : Int) ≤ 12000 := by omega
    clear h2 hconv hi hz0 hz1 hz2
    go_wp2_with fail
    refine (HF.out _).mono ?_
    rintro e w2 ⟨rfl, b2⟩
    have HB3 := Lib.hid (HB2.out.trans (b2.mono HB2.out.size))
    clear b2
    go_wp2_with fail
    refine (HT.out _).mono ?_
    rintro e w3 ⟨rfl, b3⟩
    have HB4 := Lib.hid (HB3.out.trans (b3.mono HB3.out.size))
    clear b3
    go_wp2
    go_ret
    exact ⟨rfl, HB4.out⟩
  · have HF := Lib.hid (fun W => frame_no z W (by omega) (by omega))
    have i3 : (12000 : Int) < n := by omega
    clear h2 hconv hi hz0 hz1 hz2
    go_wp2_with fail
    refine (HF.out _).mono ?_
    rintro e w2 ⟨rfl, rfl⟩
    go_wp2
    go_ret
    exact ⟨rfl, HB2.out⟩
end Go.Proofs.Ytbcdgccmokgmhaa.Crc
