import Derived.Test.YtldlfmeppcdbbaaGh
section
/- Vectors: what comes of pairs: the walk. -/

namespace Go.Proofs.Ytldlfmeppcdbbaa.Vec
open Go.RowKit

end Go.Proofs.Ytldlfmeppcdbbaa.Vec
end

section
/- Vectors: Tidy and Scale: the walks. -/

namespace Go.Proofs.Ytldlfmeppcdbbaa.Vec
open Go.RowKit

theorem decode_four (s : ByteArray) (i : Nat) : (Utf8.decode s i).2 ≤ 4 := by
  unfold Utf8.decode
  dsimp only
  repeat' split
  all_goals simp
theorem spell_size (s : ByteArray) : ∀ (n pos : Nat), s.size - pos ≤ n → s.size - pos ≤ 4 * (spell (s.data.toList.drop pos)).length
  | 0, pos, h => by omega
  | n + 1, pos, h => by
    by_cases hp : pos < s.size
    · have h1 := width1 s pos
      have h4 := decode_four s pos
      have ih := spell_size s n (pos + (Utf8.decode s pos).2) (by omega)
      rw [spell_at hp, List.length_cons]
      omega
    · omega
theorem nameGo_len : ∀ (l : List Int) (n : Nat), nameGo n l = true → n ≤ 30 → l.length ≤ 30 - n
  | [], _, _, _ => by simp
  | r :: rs, n, h, hn => by
    unfold nameGo at h
    split at h
    · cases h
    · next h2 =>
      have h30 : n ≠ 30 := fun e => h2 (.inl e)
      have := nameGo_len rs (n + 1) h (by omega)
      rw [List.length_cons]; omega
theorem name_size {s : ByteArray} (h : nameB s.data.toList = true) : s.size ≤ 120 := by
  have h1 := nameGo_len _ 0 h (by decide)
  have h2 := spell_size s s.size 0 (by omega)
  rw [List.drop_zero] at h2
  omega

theorem right_small {l : Labs} (h : rightB l = true) : SmL l := by
  obtain ⟨h1, _, h3⟩ := (right_iff l).1 h
  refine ⟨by omega, fun y hy => ?_⟩
  have := h3 y hy
  unfold fitsB at this
  rw [Bool.and_eq_true, Bool.and_eq_true] at this
  have h4 := name_size this.1
  have h5 : (y.2.size : Int) ≤ 60 := of_decide_eq_true this.2.2
  omega
theorem fit_mk {xs : List Rw} (h : fitR xs = true) : xs.length ≤ 2000 ∧ ∀ x ∈ xs, rightB x.1 = true ∧ Fix.rgt x.2 := by
  unfold fitR at h
  rw [Bool.and_eq_true, decide_eq_true_eq, List.all_eq_true] at h
  refine ⟨h.1, fun x hx => ?_⟩
  have := h.2 x hx
  rw [Bool.and_eq_true] at this
  exact ⟨this.1, of_decide_eq_true this.2⟩

end Go.Proofs.Ytldlfmeppcdbbaa.Vec
end

section
/- Vectors: Scale: the walk. -/

namespace Go.Proofs.Ytldlfmeppcdbbaa.Vec
open Go.RowKit

end Go.Proofs.Ytldlfmeppcdbbaa.Vec
end

section
/- Vectors: Match: the walk. -/

namespace Go.Proofs.Ytldlfmeppcdbbaa.Vec
open Go.RowKit Go.Maps Go.WideMaps

end Go.Proofs.Ytldlfmeppcdbbaa.Vec
end
