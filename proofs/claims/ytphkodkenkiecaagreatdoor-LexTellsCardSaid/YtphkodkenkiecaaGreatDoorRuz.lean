/- A walk: the document's own way to read a quotation. -/
import Derived.Test.YtphkodkenkiecaaGreatDoorRqz
import Derived.Laws.BytesString
import Derived.Laws.OwnMore
import Derived.StillTailTactics
namespace Go.Proofs.YtphkodkenkiecaaGreatDoor
open Go.RowKit

def hexI (c : Nat) : Int := if 48 ≤ c ∧ c ≤ 57 then (c : Int) - 48 else if 97 ≤ c ∧ c ≤ 102 then (c : Int) - 87 else -1
theorem hexI_some {c n : Nat} (h : hexR c = some n) : hexI c = n ∧ n < 16 := by
  unfold hexR at h
  unfold hexI
  by_cases h1 : 48 ≤ c ∧ c ≤ 57
  · rw [if_pos h1] at h ⊢; cases h; omega
  · rw [if_neg h1] at h ⊢
    by_cases h2 : 97 ≤ c ∧ c ≤ 102
    · rw [if_pos h2] at h ⊢; cases h; omega
    · rw [if_neg h2] at h; cases h
theorem hexI_none {c : Nat} (h : hexR c = none) : hexI c = -1 := by
  unfold hexR at h
  unfold hexI
  by_cases h1 : 48 ≤ c ∧ c ≤ 57
  · rw [if_pos h1] at h; cases h
  · rw [if_neg h1] at h ⊢
    by_cases h2 : 97 ≤ c ∧ c ≤ 102
    · rw [if_pos h2] at h; cases h
    · rw [if_neg h2]

set_option maxHeartbeats 1000000 in
set_option maxRecDepth 100000 in
theorem hex_any (c : Nat) (hc : c < 256) (w : World) : Calls Tryz.prog 95 #[.int .u8 c] w fun e w' => e = .returned (.int .i64 (hexI c)) ∧ w = w' := by
  go_enter Tryz.func95, Tryz.ntmps95
  go_wp2
  all_goals (go_ret; refine ⟨ret_int ?_, rfl⟩)
  all_goals (unfold hexI; repeat' split)
  all_goals omega

theorem tryd_info5 : (Tryz.prog.info? 5).map (fun i => (i.zero, i.size, i.bytes)) = some (some (.int .u8 0), 1, 1) := by kernel_rfl

/-- A slice of bytes of the call's own as a text. -/
theorem own_text {B : Nat} {v : Value} {l : List UInt8} {w : World} (h : w.ownsRow B 5 1 v l.length (Lib.byteCells l)) : (convert 121 9 v).run Tryz.prog w = .ok (.string ⟨l.toArray⟩) w := by
  have hfold : ∀ (l : List UInt8) (b : ByteArray), (l.map fun x => (x.toNat : Int)).foldl (fun r n => r.push (UInt8.ofNat n.toNat)) b = ⟨b.data ++ l.toArray⟩ := by
    intro l
    induction l with
    | nil => intro b; simp
    | cons x l ih =>
      intro b
      rw [List.map_cons, List.foldl_cons, ih]
      simp [ByteArray.push]
  rcases h.2 with ⟨rfl, h0⟩ | ⟨g, cap, cur, rfl, hg, hh, hn, hcap, hsz, htake⟩
  · have hl : l = [] := by simpa [Lib.byteCells] using h0
    subst hl
    rw [run_convert_bytes_string w 121 9 5 _ _ _ Tryz.underlying121 Tryz.underlying5 Tryz.underlying9]
    rfl
  · rw [run_convert_bytes_string w 121 9 5 _ _ _ Tryz.underlying121 Tryz.underlying5 Tryz.underlying9]
    have := run_bytesToString (P := Tryz.prog) w ⟨g, 0, none⟩ l.length cap (l.map fun x => (x.toNat : Int)) (by
      rw [run_loadCells w ⟨g, 0, none⟩ l.length (fun j => .int .u8 ((l.getD j 0).toNat : Int)) (fun j hj => by
        have hc := h.cellAt j (by omega)
        have e : ((⟨g, 0, none⟩ : Addr).add j) = ⟨g, j, none⟩ := by simp [Addr.add]; intro h; exact h.symm
        rw [e, hc]
        simp [Lib.byteCells, List.getD, hj])]
      congr 1
      apply Array.ext'
      simp
      apply List.ext_getElem
      · simp
      · intro i h1 h2; simp at h1 h2; simp [List.getD, h2])
    rw [this, hfold]
    simp
end Go.Proofs.YtphkodkenkiecaaGreatDoor
