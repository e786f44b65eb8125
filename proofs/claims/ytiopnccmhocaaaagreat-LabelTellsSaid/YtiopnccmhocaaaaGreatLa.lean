/- Labels: a clone, and whether a label may be. -/
import Derived.Test.YtiopnccmhocaaaaGreatWd
import Derived.Test.YtiopnccmhocaaaaGreatSort
import Derived.Deep.RegionWith
import Derived.Deep.RegionHeld3
import Derived.Deep.QuietTactic
import Derived.BigQuiet
namespace Go.Proofs.YtiopnccmhocaaaaGreat
open Go.RowKit

theorem bcell {W w1 : World} (hb : Below W.heap.size W w1) : (∀ b o, b < W.heap.size → w1.cell? ⟨b, o, none⟩ = W.cell? ⟨b, o, none⟩) ∧ (∀ b o, b < W.heap.size → w1.frozen? ⟨b, o, none⟩ = W.frozen? ⟨b, o, none⟩) :=
  ⟨fun b o h => hb.cell (p := ⟨b, o, none⟩) h, fun b o h => hb.frozen (p := ⟨b, o, none⟩) h⟩

set_option maxHeartbeats 1000000 in
set_option maxRecDepth 100000 in
theorem clone_any (s : ByteArray) (w : World) (hs : s.size ≤ 281474976710656) :
    Calls Tryz.prog 38 #[.string s] w fun e w' => e = .returned (.string s) ∧ Below w.heap.size w w' := by
  go_enter Tryz.func38, Tryz.ntmps38
  go_wp2_with (go_at_call 96; refine (Tryz.stringslite_Clone _ _ hs).mono ?_; rintro e w1 ⟨rfl, b1⟩)
  go_ret
  exact ⟨rfl, b1⟩

/-- Two blocks of a label each: what was handed in; what is made. -/
def Two (k : Nat) (a b : ByteArray) (w W : World) : Prop := W.heap[k]? = some (.cells #[.string a, .string b] 56 (0, 0)) ∧ W.heap[k + 1]? = some (.cells #[.string ⟨#[]⟩, .string ⟨#[]⟩] 56 (0, 0)) ∧ Below k w W
theorem Two.below {k : Nat} {a b : ByteArray} {w W W' : World} (h : Two k a b w W) (hb : Below W.heap.size W W') : Two k a b w W' := by
  have h1 := (Array.getElem?_eq_some_iff.1 h.1).1
  exact ⟨(hb.block _ h1).trans h.1, (hb.block _ (Array.getElem?_eq_some_iff.1 h.2.1).1).trans h.2.1, h.2.2.trans (hb.mono (by omega))⟩
theorem Two.reads {k : Nat} {a b : ByteArray} {w W : World} (h : Two k a b w W) : W.cell? ⟨k, 0, none⟩ = some (.string a) ∧ W.cell? ⟨k, 1, none⟩ = some (.string b) ∧ W.cell? ⟨k + 1, 0, none⟩ = some (.string ⟨#[]⟩) ∧ W.cell? ⟨k + 1, 1, none⟩ = some (.string ⟨#[]⟩) ∧ W.frozen? ⟨k + 1, 0, none⟩ = false ∧ W.frozen? ⟨k + 1, 1, none⟩ = false := by
  obtain ⟨h1, h2, _⟩ := h
  refine ⟨?_, ?_, ?_, ?_, ?_, ?_⟩ <;> simp [World.cell?, World.frozen?, h1, h2]

set_option maxHeartbeats 2000000 in
set_option maxRecDepth 100000 in
theorem cloneL_any (a b : ByteArray) (w : World) (ha : a.size ≤ 281474976710656) (hb : b.size ≤ 281474976710656) :
    Calls Tryz.prog 30 #[.agg #[.string a, .string b]] w fun e w' => e = .returned (.agg #[.string a, .string b]) ∧ Below w.heap.size w w' := by
  have HA := Lib.hid ha
  have HB := Lib.hid hb
  clear ha hb
  have HC := Lib.hid (fun (c : ByteArray) (hc : c.size ≤ 281474976710656) (W : World) (hW : Hid (Two w.heap.size a b w W)) => (clone_any c W hc).mono (fun e w' h => show e = .returned (.string c) ∧ w'.cell? ⟨w.heap.size, 0, none⟩ = some (.string a) ∧ w'.cell? ⟨w.heap.size, 1, none⟩ = some (.string b) ∧ w'.cell? ⟨w.heap.size + 1, 0, none⟩ = some (.string ⟨#[]⟩) ∧ w'.cell? ⟨w.heap.size + 1, 1, none⟩ = some (.string ⟨#[]⟩) ∧ w'.frozen? ⟨w.heap.size + 1, 0, none⟩ = false ∧ w'.frozen? ⟨w.heap.size + 1, 1, none⟩ = false ∧ Hid (Two w.heap.size a b w w') from
    have h2 := hW.out.below h.2
    have h3 := h2.reads
    ⟨h.1, h3.1, h3.2.1, h3.2.2.1, h3.2.2.2.1, h3.2.2.2.2.1, h3.2.2.2.2.2, h2⟩))
  go_enter Tryz.func30, Tryz.ntmps30
  go_wp2_with fail
  obtain ⟨W, hW⟩ : ∃ W, (w.alloc (Obj.cells #[Value.string a, Value.string b] 56)).alloc (Obj.cells #[Value.string ⟨#[]⟩, Value.string ⟨#[]⟩] 56) = W := ⟨_, rfl⟩
  have h2 : Two w.heap.size a b w W := by
    subst hW
    refine ⟨?_, ?_, ((Below.refl _ _).alloc (Nat.le_refl _) _).alloc (by simp) _⟩
    · rw [Below.heap_alloc _ _ _ (by rw [World.size_alloc]; omega)]; exact Array.getElem?_push_size
    · have e : (w.alloc (Obj.cells #[Value.string a, Value.string b] 56)).heap.size = w.heap.size + 1 := World.size_alloc _ _
      rw [← e]; exact Array.getElem?_push_size
  rw [hW]
  obtain ⟨r1, r2, r3, r4, r5, r6⟩ := h2.reads
  have H2 := Lib.hid (show Two w.heap.size a b w W.drew from ⟨h2.1, h2.2.1, h2.2.2.drew⟩)
  clear h2 hW
  go_region_with (go_at_call 38; refine (HC.out _ (by first | exact HA.out | exact HB.out) _ (by first | exact s7 | exact H2)).mono ?_; rintro e wq ⟨rfl, s1, s2, s3, s4, s5, s6, s7⟩)
  all_goals
    have hB := s7.out.2.2
    clear HC H2 r1 r2 r3 r4 r5 r6
    go_wp2
    exact bodyPost_ret (v := .agg #[.string a, .string b]) (by simp [results, Tryz.results30, go_sem, s3, s4]) rfl ⟨rfl, (hB.setCell (by simp) _).setCell (by simp) _⟩

/-- Whether a label may be. -/
def fitsB (a b : ByteArray) : Bool := nameB a.data.toList && (!b.toList.isEmpty && decide ((b.size : Int) ≤ 60))

set_option maxHeartbeats 1000000 in
set_option maxRecDepth 100000 in
theorem fits_any (a b : ByteArray) (w : World) :
    Calls Tryz.prog 43 #[.agg #[.string a, .string b]] w fun e w' => e = .returned (.bool (fitsB a b)) ∧ Below w.heap.size w w' := by
  go_enter Tryz.func43, Tryz.ntmps43
  go_wp2_with (go_at_call 97; refine (name_any _ _).mono ?_; rintro e wq ⟨rfl, bq⟩; obtain ⟨hc, hf⟩ := bcell bq; have hz := bq.size)
  all_goals
    go_ret
    refine ⟨ret_bool ?_, ((Below.refl _ _).alloc (Nat.le_refl _) _).trans (bq.mono (by simp only [World.size_alloc]; omega))⟩
    unfold fitsB
    simp [*]
end Go.Proofs.YtiopnccmhocaaaaGreat
