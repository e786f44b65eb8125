/- Walks (lex): the token with which a text begins. -/
import Derived.Test.YtphkodkenkiecaaGreatDoorJg
import Derived.Deep.DeepMust
namespace Go.Proofs.YtphkodkenkiecaaGreatDoor
open Go.RowKit

/-- A token, and how many bytes it has, as it is answered. -/
def tokV (o : Option Tk) : Value := match o with
  | some t => .tuple #[.agg #[.int .i64 (t.1 : Nat), .int .i64 0, .string ⟨t.2.1.toArray⟩], .int .i64 (t.2.2 : Nat)]
  | none => .tuple #[.agg #[.int .i64 0, .int .i64 0, .string ⟨#[]⟩], .int .i64 0]
theorem ext_take (s : ByteArray) (k : Nat) : (s.extract 0 k).data.toList = s.data.toList.take k := by
  rw [ByteArray.data_extract]; simp
theorem ext_drop (s : ByteArray) (k : Nat) : (s.extract k s.size).data.toList = s.data.toList.drop k := by
  rw [ByteArray.data_extract, show s.size = s.data.size from rfl, Array.toList_extract]
  simp [List.extract, List.take_of_length_le]
theorem str_of (s : ByteArray) : (⟨s.data.toList.toArray⟩ : ByteArray) = s := by cases s with | mk d => simp
theorem clone_any (s : ByteArray) (w : World) (hs : s.size ≤ 281474976710656) :
    Calls Tryz.prog 87 #[.string s] w fun e w' => e = .returned (.string s) ∧ Below w.heap.size w w' := by
  go_enter Tryz.func87, Tryz.ntmps87
  go_wp2_with (go_at_call 98; refine (Tryz.stringslite_Clone _ _ hs).mono ?_; rintro e w1 ⟨rfl, b1⟩)
  go_ret
  exact ⟨rfl, b1⟩

set_option maxHeartbeats 4000000 in
set_option maxRecDepth 100000 in
theorem sign_is (s : ByteArray) (w : World) : Calls Tryz.prog 9 #[.string s] w fun e w' => e = .returned (.bool (signB s.data.toList)) ∧ w = w' := by
  go_enter Tryz.func9, Tryz.ntmps9
  go_wp2
  all_goals go_ret
  all_goals refine ⟨ret_bool ?_, rfl⟩
  all_goals try (simp only [beq_iff_eq, beq_eq_false_iff_ne, ne_eq, ByteArray.toList_eq] at *)
  all_goals first
    | contradiction
    | (rw [‹s.data.toList = _›]; decide)
    | (unfold signB signs; simp [*])

theorem kcell {W w1 : World} (hb : Below W.heap.size W w1) : (∀ b o, b < W.heap.size → w1.cell? ⟨b, o, none⟩ = W.cell? ⟨b, o, none⟩) ∧ (∀ b o, b < W.heap.size → w1.frozen? ⟨b, o, none⟩ = W.frozen? ⟨b, o, none⟩) :=
  ⟨fun b o h => hb.cell (p := ⟨b, o, none⟩) h, fun b o h => hb.frozen (p := ⟨b, o, none⟩) h⟩

set_option maxHeartbeats 1000000 in
set_option maxRecDepth 100000 in
theorem word_any (s : ByteArray) (w : World) (hs : s.size ≤ 1099511627776) : Calls Tryz.prog 58 #[.string s] w fun e w' => e = .returned (tokV (if nameB s.data.toList = true then some (1, s.data.toList, s.size) else none)) ∧ Below w.heap.size w w' := by
  have HN := Lib.hid (fun W => name_any s W)
  have HC := Lib.hid (fun W => clone_any s W (by omega))
  have hs2 : (s.size : Int) ≤ 1099511627776 := by omega
  clear hs
  generalize nameB s.data.toList = b at HN ⊢
  cases b
  · go_enter Tryz.func58, Tryz.ntmps58
    go_wp2_with fail
    refine (HN.out _).mono ?_
    rintro e w1 ⟨rfl, b1⟩
    obtain ⟨hc1, hf1⟩ := kcell b1
    have hz1 := b1.size
    simp at hz1
    have HB := Lib.hid (((Below.refl _ _).alloc (Nat.le_refl _) _).trans (b1.mono (by simp)))
    clear b1
    go_wp2
    exact bodyPost_ret (v := .tuple #[.agg #[.int .i64 0, .int .i64 0, .string ⟨#[]⟩], .int .i64 0]) (by simp [results, Tryz.results58, go_sem, hc1]) rfl ⟨rfl, ((HB.out.setCell (Nat.le_refl _) _).setCell (Nat.le_refl _) _).setCell (Nat.le_refl _) _⟩
  · go_enter Tryz.func58, Tryz.ntmps58
    go_wp2_with fail
    refine (HN.out _).mono ?_
    rintro e w1 ⟨rfl, b1⟩
    obtain ⟨hc1, hf1⟩ := kcell b1
    have hz1 := b1.size
    simp at hz1
    have HB := Lib.hid (((Below.refl _ _).alloc (Nat.le_refl _) _).trans (b1.mono (by simp)))
    clear b1
    have hlt : w.heap.size < w1.heap.size := by omega
    go_wp2_with fail
    refine (HC.out _).mono ?_
    rintro e w2 ⟨rfl, b2⟩
    obtain ⟨hc2, hf2⟩ := kcell b2
    have hz2 := b2.size
    have HB2 := Lib.hid (HB.out.trans (b2.mono (by omega)))
    clear b2
    go_wp2
    exact bodyPost_ret (v := .tuple #[.agg #[.int .i64 1, .int .i64 0, .string s], .int .i64 s.size]) (by simp [results, Tryz.results58, go_sem, hc1, hc2, hlt]) rfl ⟨by unfold tokV; simp only [if_true]; rw [str_of]; rfl, ((HB2.out.setCell (Nat.le_refl _) _).setCell (Nat.le_refl _) _).setCell (Nat.le_refl _) _⟩
end Go.Proofs.YtphkodkenkiecaaGreatDoor
