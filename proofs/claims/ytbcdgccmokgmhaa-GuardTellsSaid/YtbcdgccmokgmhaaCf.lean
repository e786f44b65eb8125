/- Walks: frames are taken, one by one or all; the first call of the statements on frames. -/
import Derived.Test.YtbcdgccmokgmhaaCe
import Derived.Test.YtbcdgccmokgmhaaKxa
import Derived.Laws.OwnMore
import Derived.OwnWalk
namespace Go.Proofs.Ytbcdgccmokgmhaa.Crc
open Go.RowKit Go.Lib

/-- What is told of a frame that is taken. -/
def takeV (b : ByteArray) : Value := .tuple #[.string ⟨(takeF b.data.toList).2.1.toArray⟩, .string ⟨(takeF b.data.toList).2.2.toArray⟩, .int .i64 ((takeF b.data.toList).1 : Nat)]
theorem take_small (b : List UInt8) : (takeF b).1 = 0 ∨ (takeF b).1 = 2 ∨ (takeF b).1 = 10 := by
  unfold takeF
  repeat' split
  all_goals simp [ErrForm, ErrCorrupt]
theorem take_rest {b : List UInt8} (h : (takeF b).1 = 0) : (takeF b).2.2 = b.drop ((takeF b).2.1.length + 10) ∧ (takeF b).2.1.length + 10 ≤ b.length := by
  revert h
  unfold takeF
  repeat' split
  all_goals simp [ErrForm, ErrCorrupt]
  all_goals (rename_i h1 h2 h3 h4; exact ⟨by rw [Nat.min_eq_left (a := valA 0 (List.take 2 b)) (by omega)]; omega, by omega⟩)

set_option maxHeartbeats 1000000 in
set_option maxRecDepth 100000 in
theorem take_any (b : ByteArray) (w : World) (hm : b.size ≤ 1099511627776) :
    Calls Try.prog 10 #[.string b] w fun e w' => e = .returned (takeV b) ∧ Below w.heap.size w w' := by
  have HF := Lib.hid (fun W => first_any b W hm)
  obtain ⟨m, hsz⟩ : ∃ m, b.size = m := ⟨_, rfl⟩
  have hlen : b.data.toList.length = m := by rw [← Lib.size_eq]; exact hsz
  by_cases h0 : (takeF b.data.toList).1 = 0
  case neg =>
    obtain ⟨n, hn⟩ : ∃ n, (takeF b.data.toList).1 = n := ⟨_, rfl⟩
    rw [hn] at h0
    have h1 := take_none (b := b.data.toList) (by rw [hn]; exact h0)
    have he : takeF b.data.toList = (n, [], []) := by rw [← hn]; exact Prod.ext rfl (Prod.ext h1.1 h1.2)
    have HV := Lib.hid (show takeV b = .tuple #[.string ⟨#[]⟩, .string ⟨#[]⟩, .int .i64 n] by unfold takeV; rw [he])
    rw [firstV_err b n h0 he] at HF
    have j0 : ¬ (n : Int) = 0 := by omega
    clear hn h1 he h0 hlen hsz hm
    go_enter Try.func10, Try.ntmps10
    go_wp2_with fail
    refine (HF.out _).mono ?_
    rintro e w1 ⟨rfl, b1⟩
    have HB1 := Lib.hid b1
    clear b1
    go_wp2
    go_ret3
    rw [HV.out]
    exact ⟨rfl, HB1.out⟩
  case pos =>
    obtain ⟨hr, hl⟩ := take_rest h0
    obtain ⟨z, hz⟩ : ∃ z : ByteArray, ⟨(takeF b.data.toList).2.1.toArray⟩ = z := ⟨_, rfl⟩
    obtain ⟨N, hN⟩ : ∃ N, (takeF b.data.toList).2.1.length + 10 = N := ⟨_, rfl⟩
    have hzs : z.size ≤ 1099511627776 := by rw [← hz, str_size]; omega
    rw [hN] at hl hr
    obtain ⟨u, hu⟩ : ∃ u, b.extract N m = u := ⟨_, rfl⟩
    have hud : u.data.toList = b.data.toList.drop N := by rw [← hu, ← hsz, ext_rest]
    have hus : u.size ≤ 1099511627776 := by rw [Lib.size_eq, hud, List.length_drop]; omega
    have HV := Lib.hid (show takeV b = .tuple #[.string z, .string u, .int .i64 0] by
      unfold takeV; rw [h0, hr, ← hud, str_of, hz]; rfl)
    have HW := Lib.hid (show firstV b = .tuple #[.string z, .int .i64 N, .int .i64 0] by
      unfold firstV; rw [h0, if_pos rfl, hN, hz]; rfl)
    rw [HW.out] at HF
    have HC1 := Lib.hid (fun W (hb : Below w.heap.size w W) => (show Calls Try.prog 21 #[.string z] W fun e w' => e = .returned (.string z) ∧ Hid (Below w.heap.size w w') from (clone_any z W (by omega)).mono fun e w' ⟨h1, h2⟩ => ⟨h1, hb.trans (h2.mono hb.size)⟩))
    have HC2 := Lib.hid (fun W (hb : Below w.heap.size w W) => (show Calls Try.prog 21 #[.string u] W fun e w' => e = .returned (.string u) ∧ Hid (Below w.heap.size w w') from (clone_any u W (by omega)).mono fun e w' ⟨h1, h2⟩ => ⟨h1, hb.trans (h2.mono hb.size)⟩))
    have j1 : (N : Int) ≤ m := by omega
    have j2 : (m : Int) ≤ 1099511627776 := by omega
    clear hr hl hz hN hzs hud hus h0 hlen hm HW
    go_enter Try.func10, Try.ntmps10
    go_wp2_with fail
    refine (HF.out _).mono ?_
    rintro e w1 ⟨rfl, b1⟩
    have HB1 := Lib.hid b1
    clear b1
    go_wp2_with fail
    have HBd := Lib.hid HB1.out.drew
    go_region_held3 (fun W => Hid (Below w.heap.size w W)) (first | exact hba | exact hbb | exact HBd) (first
      | (go_at_call 21; refine (HC1.out _ (by first | exact HBd.out | exact hbb.out)).mono ?_; rintro e wa ⟨rfl, hba⟩)
      | (go_at_call 21; refine (HC2.out _ (by first | exact HBd.out | exact hba.out)).mono ?_; rintro e wa ⟨rfl, hbb⟩))
    have HBe := Lib.hid hbb.out
    clear hba hbb HBd HB1
    go_wp2
    go_ret3
    rw [HV.out]
    exact ⟨rfl, HBe.out⟩

/-- All frames from the beginning on, and what is left behind them. -/
def allA (b : List UInt8) : List (List UInt8) × List UInt8 := allF (b.length + 1) b
theorem allA_step {b : List UInt8} (h : (takeF b).1 = 0) : allA b = ((takeF b).2.1 :: (allA (takeF b).2.2).1, (allA (takeF b).2.2).2) := by
  have hl := take_less h
  unfold allA
  rw [allF, if_pos h, allF_enough b.length ((takeF b).2.2.length + 1) _ (by omega) (by omega)]
theorem allA_stop {b : List UInt8} (h : (takeF b).1 ≠ 0) : allA b = ([], b) := by
  unfold allA
  rw [allF, if_neg h]
def strL (l : List (List UInt8)) : List ByteArray := l.map fun x => ⟨x.toArray⟩
theorem strL_len (l : List (List UInt8)) : (strL l).length = l.length := by simp [strL]
theorem strL_snoc (l : List (List UInt8)) (x : List UInt8) : strL (l ++ [x]) = strL l ++ [⟨x.toArray⟩] := by simp [strL]
/-- All frames are told: a list of one's own, and how many bytes they are. -/
def AllR (B : Nat) (b : ByteArray) (e : Ending) (w' : World) : Prop := ∃ v, e = .returned (.tuple #[v, .int .i64 ((b.size - (allA b.data.toList).2.length : Nat) : Int)]) ∧ w'.ownsRow B 9 1 v (allA b.data.toList).1.length (BkX.flatE (strL (allA b.data.toList).1))

set_option maxHeartbeats 2000000 in
set_option maxRecDepth 100000 in
theorem all_any (b : ByteArray) (w : World) (hm : b.size ≤ 1000000) :
    Calls Try.prog 15 #[.string b] w fun e w' => AllR w.heap.size b e w' ∧ Below w.heap.size w w' := by
  obtain ⟨i0, hi, hz0, hz1, hz2⟩ := info_parts BkX.infoE
  obtain ⟨m, hsz⟩ : ∃ m, b.size = m := ⟨_, rfl⟩
  have hlen : b.data.toList.length = m := by rw [← Lib.size_eq]; exact hsz
  have hm2 : m ≤ 1000000 := by omega
  have j2 : (m : Int) ≤ 1000000 := by omega
  have HR := Lib.hid (show ∀ e w', AllR w.heap.size b e w' = ∃ v, e = .returned (.tuple #[v, .int .i64 ((m - (allA b.data.toList).2.length : Nat) : Int)]) ∧ w'.ownsRow w.heap.size 9 1 v (allA b.data.toList).1.length (BkX.flatE (strL (allA b.data.toList).1)) from fun e w' => by unfold AllR; rw [hsz])
  obtain ⟨L, hL⟩ : ∃ L, b.data.toList = L := ⟨_, rfl⟩
  have HX := Lib.hid (fun A => (show (b.extract A m).data.toList = L.drop A by rw [← hsz, ext_rest, hL]))
  have HL := Lib.hid (show L.length = m by rw [← hL]; exact hlen)
  rw [hL] at HR
  clear hlen hm hL
  go_enter Try.func15, Try.ntmps15
  go_wp2
  go_loopw [4, 5] (fun v4 v5 wr => ∃ (A : Nat) (done : List (List UInt8)), v5 = .int .i64 A ∧ A ≤ m ∧ done.length ≤ A ∧ Hid ((allA L).1 = done ++ (allA (L.drop A)).1 ∧ (allA L).2 = (allA (L.drop A)).2) ∧ wr.ownsRow w.heap.size 9 1 v4 done.length (BkX.flatE (strL done)) ∧ Hid (Below w.heap.size w wr)) (fun _ v5 _ => m - (Go.RowKit.intOf v5).toNat)
  case atStart => exact ⟨0, [], rfl, Nat.zero_le _, Nat.le_refl _, Lib.hid ⟨rfl, rfl⟩, World.ownsRow_nil _ _ _ _, Below.refl _ _⟩
  case round =>
    obtain ⟨A, done, rfl, hA, hd, HI, hown, HB⟩ := hrel
    have j1 : (A : Int) ≤ m := by omega
    obtain ⟨u, hu⟩ : ∃ u, b.extract A m = u := ⟨_, rfl⟩
    have hud : u.data.toList = L.drop A := by rw [← hu]; exact HX.out A
    have hus : u.size ≤ 1099511627776 := by rw [Lib.size_eq, hud, List.length_drop, HL.out]; omega
    have HF := Lib.hid (fun W => first_any u W hus)
    by_cases h0 : (takeF (L.drop A)).1 = 0
    case neg =>
      obtain ⟨n, hn⟩ : ∃ n, (takeF (L.drop A)).1 = n := ⟨_, rfl⟩
      have h1 := take_none h0
      rw [hn] at h0
      have he : takeF u.data.toList = (n, [], []) := by rw [← hn, hud]; exact Prod.ext rfl (Prod.ext h1.1 h1.2)
      rw [firstV_err u n h0 he] at HF
      have j0 : ¬ (n : Int) = 0 := by omega
      have hs := allA_stop (b := L.drop A) (by rw [hn]; exact h0)
      have HE := Lib.hid (show (allA L).1 = done ∧ m - (allA L).2.length = A by
        rw [HI.out.1, HI.out.2, hs, List.append_nil, List.length_drop, HL.out]; exact ⟨rfl, by omega⟩)
      clear HI hs hn h1 he h0 hud hus
      go_wp2_with fail
      refine (HF.out _).mono ?_
      rintro e w1 ⟨rfl, b1⟩
      have HB1 := Lib.hid (HB.out.trans (b1.mono HB.out.size))
      have hown1 := BkX.own_grown hown b1
      clear b1
      go_wp2
      go_ret2
      rw [HR.out, HE.out.1, HE.out.2]
      exact ⟨⟨_, rfl, hown1⟩, HB1.out⟩
    case pos =>
      obtain ⟨hr, hl⟩ := take_rest h0
      rw [List.length_drop, HL.out] at hl
      obtain ⟨s, hs⟩ : ∃ s, (takeF (L.drop A)).2.1 = s := ⟨_, rfl⟩
      rw [hs, List.drop_drop] at hr
      rw [hs] at hl
      have hst := allA_step h0
      rw [hs, hr] at hst
      obtain ⟨z, hz⟩ : ∃ z : ByteArray, ⟨s.toArray⟩ = z := ⟨_, rfl⟩
      have hzs : z.size ≤ 1099511627776 := by rw [← hz, str_size]; omega
      obtain ⟨N, hN⟩ : ∃ N, s.length + 10 = N := ⟨_, rfl⟩
      have HW := Lib.hid (show firstV u = .tuple #[.string z, .int .i64 N, .int .i64 0] by
        unfold firstV; rw [hud, h0, if_pos rfl, hs, hN, hz]; rfl)
      rw [HW.out] at HF
      rw [hN] at hst hl
      have HI2 := Lib.hid (show (allA L).1 = (done ++ [s]) ++ (allA (L.drop (A + N))).1 ∧ (allA L).2 = (allA (L.drop (A + N))).2 by
        rw [HI.out.1, HI.out.2, hst, List.append_assoc]; exact ⟨rfl, rfl⟩)
      have HZ := Lib.hid (show strL (done ++ [s]) = strL done ++ [z] by rw [strL_snoc, hz])
      have HC1 := Lib.hid (fun W => clone_any z W (by omega))
      have hN1 : 1 ≤ N := by omega
      have hN2 : A + N ≤ m := by omega
      have hwr := HB.out.size
      clear HI HW hst hr hl hs h0 hz hzs hud hus
      go_wp2_with fail
      refine (HF.out _).mono ?_
      rintro e w1 ⟨rfl, b1⟩
      have HB1 := Lib.hid (HB.out.trans (b1.mono HB.out.size))
      have hown1 := BkX.own_grown hown b1
      clear b1
      go_wp2_with fail
      refine (HC1.out _).mono ?_
      rintro e w2 ⟨rfl, b2⟩
      have HB2 := Lib.hid (HB1.out.trans (b2.mono HB1.out.size))
      have hown2 := BkX.own_grown hown1 b2
      have hw2 := HB2.out.size
      clear b2
      go_wp2_with (at_builtin; go_must (refine wpList_append_own _ rfl _ _ 31 rfl w.heap.size 9 i0 (.string ⟨#[]⟩) 1 16 Try.underlying31 hi hz0 hz1 hz2 rfl (by decide) _ _ _ rfl (hown2.alloc _) ⟨w2.heap.size, 0, none⟩ 1 1 [.string z] rfl rfl (BkX.cell_1 _ _ _) (BkX.encE_cells z) (by unfold maxLen; omega) (by omega) (by simp; omega) ?_); intro v' w3 hown' hgrow3 hnil3)
      have HB3 := Lib.hid (Below.grown (HB2.out.alloc (by omega) _) hgrow3 (by simp; omega) (fun j hj => (hown2.lt _ hj).1) : Below w.heap.size w w3)
      have ho3 : w3.ownsRow w.heap.size 9 1 v' (done ++ [s]).length (BkX.flatE (strL (done ++ [s]))) := by
        rw [HZ.out, BkX.flatE_append, BkX.flatE_one, List.length_append]; exact hown'
      clear hown' hgrow3 hnil3
      go_wp2
      go_roundw
      case rel => exact ⟨A + N, done ++ [s], by go_num, hN2, by rw [List.length_append]; simp; omega, HI2, ho3, HB3⟩
      case measure => simp [Go.RowKit.intOf]; omega
end Go.Proofs.Ytbcdgccmokgmhaa.Crc
