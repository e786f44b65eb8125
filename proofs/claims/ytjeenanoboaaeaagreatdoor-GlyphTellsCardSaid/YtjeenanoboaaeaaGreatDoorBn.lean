/- The walk of the statement that tells all. -/
import Derived.Test.YtjeenanoboaaeaaGreatDoorBm
import Derived.Test.YtjeenanoboaaeaaGreatDoorWj
import Derived.Test.YtjeenanoboaaeaaGreatDoorWi
namespace Go.Proofs.YtjeenanoboaaeaaGreatDoor
open Go.RowKit

theorem cutL_min : ∀ (k f : Nat) (l : List UInt8), l.length ≤ f → cutL (min k (sufs l).length) l = cutL k l
  | 0, f, l, _ => by simp
  | k + 1, f, l, hf => by
    by_cases hne : l = []
    · subst hne; rw [cutL_nil, cutL_nil]
    · have hw := Lib.decodeL_width l
      have hle := Lib.decodeL_le l hne
      match f, hf with
      | 0, hf => exact absurd (List.eq_nil_of_length_eq_zero (by omega)) hne
      | f + 1, hf =>
        rw [sufs_step l hne, List.length_cons, show min (k + 1) ((sufs (l.drop (Lib.decodeL l).2)).length + 1) = min k (sufs (l.drop (Lib.decodeL l).2)).length + 1 by omega]
        rw [cutL, if_neg hne, cutL, if_neg hne, cutL_min k f _ (by rw [List.length_drop]; omega)]
theorem spell_length (l : List UInt8) : (spell l).length = (sufs l).length := by simp [spell]
end Go.Proofs.YtjeenanoboaaeaaGreatDoor
