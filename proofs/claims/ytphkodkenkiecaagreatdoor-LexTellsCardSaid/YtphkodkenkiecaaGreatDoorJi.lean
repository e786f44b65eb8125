/- Walks (lex): numbers, quotations, signs. -/
import Derived.Test.YtphkodkenkiecaaGreatDoorJh
namespace Go.Proofs.YtphkodkenkiecaaGreatDoor
open Go.RowKit

def uVal' (o : Option (List UInt8)) : Value := match o with
  | some t => .tuple #[.string ⟨t.toArray⟩, .bool true]
  | none => .tuple #[.string ⟨#[]⟩, .bool false]
theorem unq_any (s : ByteArray) (hs : s.size ≤ 274877906944) (w : World) (h : Env w) : Calls Tryz.prog 92 #[.string s] w fun e w' => e = .returned (uVal' (unquoteL s.data.toList)) ∧ Below w.heap.size w w' := by
  obtain ⟨⟨ev, hG, hev⟩, h0, _⟩ := h
  refine (unquote_any s hs ev w h0 hG hev).mono fun e w' ⟨he, hb⟩ => ⟨?_, hb⟩
  generalize unquoteL s.data.toList = o at he ⊢
  cases o <;> exact he

set_option maxHeartbeats 1000000 in
set_option maxRecDepth 100000 in
theorem quoted_any (s : ByteArray) (w : World) (h : Env w) (hs : s.size ≤ 274877906944) : Calls Tryz.prog 61 #[.string s] w fun e w' => e = .returned (tokV ((unquoteL s.data.toList).map fun t => (3, t, s.size))) ∧ Below w.heap.size w w' := by
  have HN := Lib.hid (fun W (hb : Below w.heap.size w W) => unq_any s (by omega) W (h.below hb))
  have hs2 : (s.size : Int) ≤ 274877906944 := by omega
  clear hs h
  generalize unquoteL s.data.toList = b at HN ⊢
  cases b
  · go_enter Tryz.func61, Tryz.ntmps61
    go_wp2_with fail
    refine (HN.out _ ((Below.refl _ _).alloc (Nat.le_refl _) _)).mono ?_
    rintro e w1 ⟨rfl, b1⟩
    obtain ⟨hc1, hf1⟩ := kcell b1
    have hz1 := b1.size
    simp at hz1
    have HB := Lib.hid (((Below.refl _ _).alloc (Nat.le_refl _) _).trans (b1.mono (by simp)))
    clear b1
    simp only [uVal']
    go_wp2
    exact bodyPost_ret (v := .tuple #[.agg #[.int .i64 0, .int .i64 0, .string ⟨#[]⟩], .int .i64 0]) (by simp [results, Tryz.results61, go_sem, hc1]) rfl ⟨rfl, ((HB.out.setCell (Nat.le_refl _) _).setCell (Nat.le_refl _) _).setCell (Nat.le_refl _) _⟩
  · rename_i t
    go_enter Tryz.func61, Tryz.ntmps61
    go_wp2_with fail
    refine (HN.out _ ((Below.refl _ _).alloc (Nat.le_refl _) _)).mono ?_
    rintro e w1 ⟨rfl, b1⟩
    obtain ⟨hc1, hf1⟩ := kcell b1
    have hz1 := b1.size
    simp at hz1
    have HB := Lib.hid (((Below.refl _ _).alloc (Nat.le_refl _) _).trans (b1.mono (by simp)))
    clear b1
    simp only [uVal']
    go_wp2
    exact bodyPost_ret (v := .tuple #[.agg #[.int .i64 3, .int .i64 0, .string ⟨t.toArray⟩], .int .i64 s.size]) (by simp [results, Tryz.results61, go_sem, hc1]) rfl ⟨rfl, ((HB.out.setCell (Nat.le_refl _) _).setCell (Nat.le_refl _) _).setCell (Nat.le_refl _) _⟩

/-- The sign of at most so many bytes. -/
def signUp (l : List UInt8) : Nat → Option Tk
  | 0 => none
  | n + 1 => if signB (l.take (n + 1)) = true then some (5, l.take (n + 1), n + 1) else signUp l n
theorem signUp_all (l : List UInt8) : signUp l (min 2 l.length) = signL l := by
  unfold signL
  match l with
  | [] => rfl
  | [x] => 
    show signUp [x] 1 = _
    simp [signUp]
  | x :: y :: u =>
    show signUp (x :: y :: u) 2 = _
    simp [signUp]

set_option maxHeartbeats 1000000 in
set_option maxRecDepth 100000 in
theorem sign_any (s : ByteArray) (w : World) (hs : s.size ≤ 274877906944) : Calls Tryz.prog 63 #[.string s] w fun e w' => e = .returned (tokV (signL s.data.toList)) ∧ Below w.heap.size w w' := by
  have HC := Lib.hid (fun n W => clone_any (s.extract 0 n) W (by rw [ByteArray.size_extract]; omega))
  have hz : s.data.toList.length = s.size := by rw [← Lib.size_eq]
  have HS := Lib.hid (signUp_all s.data.toList)
  rw [hz] at HS
  have hs2 : (s.size : Int) ≤ 274877906944 := by omega
  clear hs hz
  have hm : ∃ m, min 2 s.size = m ∧ m ≤ 2 ∧ m ≤ s.size := ⟨_, rfl, by omega, by omega⟩
  obtain ⟨m, hm, hm2, hms⟩ := hm
  rw [hm] at HS
  have mn : ∀ W ts t, (Builtin.min_ ts t #[.int .i64 2, .int .i64 s.size]).run Tryz.prog W = .ok (.int .i64 (m : Nat)) W := by
    intro W ts t
    rw [run_min_int2]
    congr 3
    omega
  clear hm
  go_enter Tryz.func63, Tryz.ntmps63
  go_wp2
  go_loop [4] (fun v => ∃ n : Nat, v = .int .i64 n ∧ n ≤ 2 ∧ n ≤ s.size ∧ Hid (signUp s.data.toList n = signL s.data.toList)) (fun v => (intOf v).toNat)
  case atStart => exact ⟨m, rfl, hm2, hms, HS⟩
  case round =>
    obtain ⟨n, rfl, hn2, hns, H⟩ := hrel
    by_cases h0 : 0 < n
    · obtain ⟨k, rfl⟩ : ∃ k, n = k + 1 := ⟨n - 1, by omega⟩
      have i1 : (k : Int) + 1 ≤ s.size := by omega
      cases hb : signB (s.data.toList.take (k + 1)) with
      | true =>
        have HI := Lib.hid (fun W => (sign_is (s.extract 0 (k + 1)) W).mono (R' := fun e w' => e = .returned (.bool true) ∧ W = w') (fun e w' ⟨h1, h2⟩ => ⟨by rw [h1, ext_take, hb], h2⟩))
        have H2 := Lib.hid (show signL s.data.toList = some (5, s.data.toList.take (k + 1), k + 1) by rw [← H.out]; unfold signUp; rw [if_pos hb])
        have HX := Lib.hid (show (⟨(s.data.toList.take (k + 1)).toArray⟩ : ByteArray) = s.extract 0 (k + 1) by rw [← ext_take, str_of])
        clear H hb
        go_wp2_with fail
        refine (HI.out _).mono ?_
        rintro e w1 ⟨rfl, rfl⟩
        go_wp2_with fail
        refine (HC.out (k + 1) _).mono ?_
        rintro e w2 ⟨rfl, b2⟩
        obtain ⟨hc2, hf2⟩ := kcell b2
        have hz2 := b2.size
        simp at hz2
        have HB := Lib.hid (((Below.refl _ _).alloc (Nat.le_refl _) _).trans (b2.mono (by simp)))
        clear b2
        go_wp2
        exact bodyPost_ret (v := .tuple #[.agg #[.int .i64 5, .int .i64 0, .string (s.extract 0 (k + 1))], .int .i64 (k + 1)]) (by simp [results, Tryz.results63, go_sem, hc2]) rfl ⟨by rw [H2.out]; unfold tokV; dsimp only; rw [HX.out]; rfl, ((HB.out.setCell (Nat.le_refl _) _).setCell (Nat.le_refl _) _).setCell (Nat.le_refl _) _⟩
      | false =>
        have HI := Lib.hid (fun W => (sign_is (s.extract 0 (k + 1)) W).mono (R' := fun e w' => e = .returned (.bool false) ∧ W = w') (fun e w' ⟨h1, h2⟩ => ⟨by rw [h1, ext_take, hb], h2⟩))
        have H2 := Lib.hid (show signUp s.data.toList k = signL s.data.toList by rw [← H.out]; rw [signUp, hb]; rfl)
        clear H hb
        go_wp2_with fail
        refine (HI.out _).mono ?_
        rintro e w1 ⟨rfl, rfl⟩
        go_wp2
        go_round
        case rel => exact ⟨k, by go_num, by omega, by omega, H2⟩
        case measure => simp [intOf]
    · obtain rfl : n = 0 := by omega
      have H2 := Lib.hid (show none = signL s.data.toList by rw [← H.out]; rfl)
      clear H
      go_wp2
      exact bodyPost_ret (v := .tuple #[.agg #[.int .i64 0, .int .i64 0, .string ⟨#[]⟩], .int .i64 0]) (by simp [results, Tryz.results63, go_sem]) rfl ⟨by rw [← H2.out]; rfl, (Below.refl _ _).alloc (Nat.le_refl _) _⟩
end Go.Proofs.YtphkodkenkiecaaGreatDoor
