/- Groups: of one row, plain. -/
import Derived.Test.YtbdnonphkobkoaaGreatGse
namespace Go.Proofs.YtbdnonphkobkoaaGreat.Grp
open Go.RowKit Go.Lib Go.Sort Vec Fix

theorem sum_one {v : Int} (h : rgt v) : sumF [v] = (v, 0) := by
  unfold sumF withinF rgt at *
  simp [h]
theorem mean_one {v : Int} (h : rgt v) : meanF [v] = (v, 0) := by
  unfold meanF rgt at *
  simp [h]
theorem rank_one {p v : Int} (h : 0 ≤ p ∧ p ≤ 100) : (rankF p [v]).1 = v := by
  have e1 : risen [v] = [v] := List.mergeSort_singleton v
  have e2 : placeF p 1 - 1 = 0 := by
    unfold placeF
    omega
  unfold rankF
  rw [if_neg (by simp; omega), e1]
  show ([v] : List Int).getD (placeF p 1 - 1) 0 = v
  rw [e2]; rfl
/-- What comes of a group of one row. -/
def rowOne (a : Nat × Int) (x : Rw) : Rw := if a.1 = 6 then x else ([], if a.1 = 4 then 1 else x.2)
theorem reck_one {a : Nat × Int} (ha : a.1 < 7) (h6 : a.1 = 6 → 1 ≤ a.2 ∧ a.2 ≤ 2000) (h5 : a.1 = 5 → 0 ≤ a.2 ∧ a.2 ≤ 100) {x : Rw} (hx : rgt x.2) : reckG a ([], [x]) = ([rowOne a x], 0) := by
  obtain ⟨k, p⟩ := a
  match k, ha with
  | 0, _ => unfold reckG rowOne numF nums; simp [sum_one hx]
  | 1, _ => unfold reckG rowOne numF nums; simp [mean_one hx]
  | 2, _ => unfold reckG rowOne numF nums; simp [Win.minL]
  | 3, _ => unfold reckG rowOne numF nums; simp [Win.maxL]
  | 4, _ => unfold reckG rowOne numF nums; simp
  | 5, _ => unfold reckG rowOne numF nums; simp [rank_one (h5 rfl)]
  | 6, _ =>
    have := (h6 rfl).1
    unfold reckG rowOne
    obtain ⟨q, rfl⟩ : ∃ q : Nat, p = (q + 1 : Nat) := ⟨p.toNat - 1, by omega⟩
    simp [Stb.srt_one]
theorem rows_one {a : Nat × Int} (ha : a.1 < 7) (h6 : a.1 = 6 → 1 ≤ a.2 ∧ a.2 ≤ 2000) (h5 : a.1 = 5 → 0 ≤ a.2 ∧ a.2 ≤ 100) {x : Rw} (hx : rgt x.2) : rowsOf a (splitR 0 [] [x]) = [rowOne a x] := by
  rw [split_one (by simp)]
  unfold rowsOf
  simp [reck_one ha h6 h5 hx]
theorem rows_none (a : Nat × Int) : rowsOf a (splitR 0 [] []) = [] := by rw [split_nil]; rfl
theorem agg_four {s : ByteArray} {n : Int} {a : Nat × Int} (h : aggF s n = some a) : a.1 = 4 ↔ s = ⟨#[99, 111, 117, 110, 116]⟩ := by
  unfold aggF at h
  constructor
  · intro e
    repeat' split at h
    all_goals first | (cases h; done) | (cases h; cases e; done) | assumption
  · rintro rfl
    simp at h
    rw [← h]
theorem agg_six {s : ByteArray} {n : Int} {a : Nat × Int} (h : aggF s n = some a) : a.1 = 6 ↔ s = ⟨#[116, 111, 112, 107]⟩ := by
  unfold aggF at h
  constructor
  · intro e
    repeat' split at h
    all_goals first | (cases h; done) | (cases h; cases e; done) | assumption
  · rintro rfl
    simp at h
    rw [← h.2]
theorem vec_one (x : Rw) : vecT [x] = [] ∨ ∃ y, vecT [x] = [y] ∧ rgt y.2 := by
  have hl := vecT_len [x]
  have hr := vecT_right [x]
  match h : vecT [x], hl with
  | [], _ => exact .inl rfl
  | [y], _ =>
    rw [h] at hr
    exact .inr ⟨y, rfl, ((right_fit hr).2.1 y (by simp)).2⟩
  | y :: z :: r, hl => simp at hl
/-- One row in memory. -/
theorem row_one {w : World} {B : Nat} {o : Option Addr} {n c : Nat} {l : Labs} {v : Int} (hn : l.length = n) (hl : l.length ≤ maxLen) (h : LabS w B o l) : RowsS (w.alloc (.cells #[.slice o n c, .int .i64 v] 53)) B (some ⟨w.heap.size, 0, none⟩) [(l, v)] := by
  have h1 : (w.alloc (.cells #[.slice o n c, .int .i64 v] 53)).heap[w.heap.size]? = some (.cells #[.slice o n c, .int .i64 v] 53 (0, 0)) := Array.getElem?_push_size
  refine .inr ⟨w.heap.size, 0, rfl, heap_lt h1, fun j x hx => ?_⟩
  match j, hx with
  | 0, hx =>
    simp at hx; subst hx
    refine ⟨[.slice o n c, .int .i64 v], ⟨o, c, by rw [← hn], h.below ((Below.refl _ _).alloc (Nat.le_refl _) _), hl⟩, fun i u hu => ?_⟩
    match i, hu with
    | 0, hu => simp at hu; subst hu; exact (show World.cell? _ ⟨w.heap.size, 0, none⟩ = some _ from by unfold World.cell?; simp only [h1]; rfl)
    | 1, hu => simp at hu; subst hu; exact (show World.cell? _ ⟨w.heap.size, 1, none⟩ = some _ from by unfold World.cell?; simp only [h1]; rfl)
    | i + 2, hu => simp at hu
  | j + 1, hx => simp at hx
end Go.Proofs.YtbdnonphkobkoaaGreat.Grp
