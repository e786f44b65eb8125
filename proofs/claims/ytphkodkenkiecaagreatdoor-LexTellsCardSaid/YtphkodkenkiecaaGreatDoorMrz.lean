/- Plain: what is read as no quotation by the one way is none by the other. -/
import Derived.Test.YtphkodkenkiecaaGreatDoorRvz
namespace Go.Proofs.YtphkodkenkiecaaGreatDoor
open Go.RowKit

theorem unquoteR_quote (t : List UInt8) : unquoteR (quoteL t) = some t := by
  unfold unquoteR
  rw [if_neg (outer_ok t), inner_eq]
  obtain ⟨f', _, e⟩ := rd_body false t [] (bodyQ t).length (by simp)
  rw [List.append_nil] at e
  rw [e]
  cases f' <;> simp [rd, pre2]
theorem unquoteR_some {q t : List UInt8} (h : unquoteR q = some t) : quoteL t = q := by
  unfold unquoteR at h
  split at h
  · cases h
  · split at h
    · cases h
    · split at h
      · cases h; assumption
      · cases h
theorem unquote_same (q : List UInt8) : unquoteL q = unquoteR q := by
  cases h : unquoteL q with
  | some t => rw [← unquoteL_some h, unquoteR_quote]
  | none =>
    cases h2 : unquoteR q with
    | some t => rw [← unquoteR_some h2, unquoteL_quote] at h; cases h
    | none => rfl
end Go.Proofs.YtphkodkenkiecaaGreatDoor
