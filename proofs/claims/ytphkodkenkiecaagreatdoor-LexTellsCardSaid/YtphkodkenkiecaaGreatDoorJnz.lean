/- A walk (lex): a first answer that the document fixes. -/
import Derived.Test.YtphkodkenkiecaaGreatDoorJma
import Derived.Laws.StructEq
namespace Go.Proofs.YtphkodkenkiecaaGreatDoor
open Go.RowKit

theorem c_lex : lexL [97, 32, 62, 61, 32, 53, 109] = some [(1, 0, [97]), (5, 2, [62, 61]), (4, 5, [51, 48, 48])] := by decide +kernel
theorem c_sg1 : signB [61, 126] = true := by decide
theorem c_sg2 : signB [126] = false := by decide

theorem words_some (s : ByteArray) (ws : List Wd) (hl : lexL s.data.toList = some ws) (hs : s.size ≤ 600) (w : World) (h : Env w) :
    Calls Tryz.prog 5 #[.string s] w fun e w' => (∃ o c, e = .returned (.tuple #[.slice o ws.length c, .int .i64 0]) ∧ SeesW w' o ws) ∧ Below w.heap.size w w' := by
  refine (words_any s w h (by unfold maxLen; omega)).mono fun e w' ⟨he, hb⟩ => ⟨?_, hb⟩
  unfold WordsEnd at he
  rw [if_neg (by rw [← Lib.size_eq]; omega), hl] at he
  obtain ⟨v, rfl, hown⟩ := he
  obtain ⟨o, c, rfl, hS⟩ := own_words hown
  exact ⟨o, c, rfl, hS⟩
theorem words_none (s : ByteArray) (hl : lexL s.data.toList = none) (hs : s.size ≤ 600) (w : World) (h : Env w) :
    Calls Tryz.prog 5 #[.string s] w fun e w' => e = .returned (.tuple #[.slice none 0 0, .int .i64 2]) ∧ Below w.heap.size w w' := by
  refine (words_any s w h (by unfold maxLen; omega)).mono fun e w' ⟨he, hb⟩ => ⟨?_, hb⟩
  unfold WordsEnd at he
  rw [if_neg (by rw [← Lib.size_eq]; omega), hl] at he
  exact he
theorem words_long (s : ByteArray) (hl : 600 < s.size) (hs : s.size ≤ maxLen) (w : World) (h : Env w) :
    Calls Tryz.prog 5 #[.string s] w fun e w' => e = .returned (.tuple #[.slice none 0 0, .int .i64 1]) ∧ Below w.heap.size w w' := by
  refine (words_any s w h hs).mono fun e w' ⟨he, hb⟩ => ⟨?_, hb⟩
  unfold WordsEnd at he
  rw [if_pos (by rw [← Lib.size_eq]; omega)] at he
  exact he
theorem SeesW.open {w : World} {o : Option Addr} {ws : List Wd} (h : SeesW w o ws) (hne : ws ≠ []) : ∃ b off, o = some ⟨b, off, none⟩ ∧ b < w.heap.size ∧ ∀ (j : Nat) (x : Wd), ws[j]? = some x →
    w.cell? ⟨b, off + j * 3, none⟩ = some (.int .i64 (x.1 : Nat)) ∧ w.cell? ⟨b, off + j * 3 + 1, none⟩ = some (.int .i64 (x.2.1 : Nat)) ∧ w.cell? ⟨b, off + j * 3 + 2, none⟩ = some (.string ⟨x.2.2.toArray⟩) :=
  h.elim (fun e => absurd e hne) id

set_option maxHeartbeats 2000000 in
set_option maxRecDepth 100000 in
theorem alive_any (w : World) (h : Env w) : Calls Tryz.prog 4 #[] w fun e w' => e = .returned (.bool true) ∧ Below w.heap.size w w' := by
  have HW := Lib.hid (words_some ⟨#[97, 32, 62, 61, 32, 53, 109]⟩ _ c_lex (by decide) w h)
  have S1 := Lib.hid (fun W => (sign_is ⟨#[61, 126]⟩ W).mono (R' := fun e w' => e = .returned (.bool true) ∧ W = w') (fun e w' ⟨h1, h2⟩ => ⟨by rw [h1, show (⟨#[61, 126]⟩ : ByteArray).data.toList = [61, 126] from rfl, c_sg1], h2⟩))
  have S2 := Lib.hid (fun W => (sign_is ⟨#[126]⟩ W).mono (R' := fun e w' => e = .returned (.bool false) ∧ W = w') (fun e w' ⟨h1, h2⟩ => ⟨by rw [h1, show (⟨#[126]⟩ : ByteArray).data.toList = [126] from rfl, c_sg2], h2⟩))
  go_enter Tryz.func4, Tryz.ntmps4
  go_wp2_with fail
  refine HW.out.mono ?_
  rintro e w1 ⟨⟨o, c, rfl, hS⟩, b1⟩
  obtain ⟨b, off, rfl, hbl, hcs⟩ := hS.open (by simp)
  obtain ⟨c0, c1, c2⟩ := hcs 1 _ rfl
  obtain ⟨_, _, c3⟩ := hcs 2 _ rfl
  clear hcs hS HW
  dsimp only at c0 c1 c2 c3
  go_wp2_with fail
  refine (S1.out _).mono ?_
  rintro e w2 ⟨rfl, rfl⟩
  go_wp2_with fail
  refine (S2.out _).mono ?_
  rintro e w2 ⟨rfl, rfl⟩
  go_wp2
  go_ret
  exact ⟨rfl, b1⟩
end Go.Proofs.YtphkodkenkiecaaGreatDoor
