/- The document's patterns read: all together, but for classes. -/
import Derived.Test.YtmidpekkomhogaaDe
namespace Go.Proofs.Ytmidpekkomhogaa.Dpt
open Go.RowKit Go.Lib
open Go.Proofs.Ytmidpekkomhogaa.Pat

theorem all_ok (bp : Nat) (rs : List Int) (hl : rs.length ≤ 1000) (HC : ClOK bp rs) (n : Nat) (hn : n ≤ 4000) : AtOK bp rs n ∧ AgOK bp rs n ∧ BeOK bp rs n ∧ EiOK bp rs n := by
  induction n using Nat.strongRecOn with
  | _ n ih =>
    have h1 := atom_ok bp rs n hl hn (fun m hm => (ih m hm (by omega)).2.2.2) HC
    exact ⟨h1, again_ok bp rs n hl hn h1, behind_ok bp rs n hl hn fun m hm => (ih m hm (by omega)).2.1, either_ok bp rs n hl hn fun m hm => (ih m hm (by omega)).2.2.1⟩
/-- The whole text, from its start: bad or not at its end where the plain reader takes none. -/
theorem whole_ok (bp : Nat) (rs : List Int) (hl : rs.length ≤ 1000) (HC : ClOK bp rs) (k : Nat) (W : World) (h : DP W bp rs 0 false k) (hk : k ≤ 20000) :
    Calls Try.prog 27 #[.pointer (some ⟨bp, 0, none⟩)] W fun e w' => ∃ (v : Int) (a' : Nat) (b' : Bool) (k' : Nat), e = .returned (.int .i64 v) ∧ DP w' bp rs a' b' k' ∧ Below bp W w' ∧ a' ≤ 10000 ∧ ((b' = true ∨ a' < rs.length) ↔ rawP rs = none) := by
  refine ((all_ok bp rs hl HC (3 * rs.length + 3) (by omega)).2.2.2 0 k W h (by omega) (Nat.zero_le _) (by omega)).mono ?_
  rintro e w' ⟨v, a', b', k', he, hd, hb, _, htop, _, hres⟩
  refine ⟨v, a', b', k', he, hd, hb, by omega, ?_⟩
  rw [List.drop_zero] at hres
  unfold rawP
  cases hq : chR (3 * rs.length + 3) rs [] with
  | none =>
    rw [hq] at hres
    exact ⟨fun _ => rfl, fun _ => .inl hres⟩
  | some p =>
    obtain ⟨c, m⟩ := p
    rw [hq] at hres
    obtain ⟨h1, h2, h3⟩ := hres
    have h2 : rs.drop a' = m := h2
    cases m with
    | nil =>
      have : rs.length ≤ a' := by
        have := congrArg List.length h2
        rw [List.length_drop] at this
        simp at this; omega
      refine ⟨fun hc => ?_, fun hc => nomatch hc⟩
      rcases hc with hc | hc
      · rw [h1] at hc; cases hc
      · omega
    | cons x t =>
      have : a' < rs.length := by
        have := congrArg List.length h2
        rw [List.length_drop] at this
        simp at this; omega
      exact ⟨fun _ => rfl, fun _ => .inr this⟩
end Go.Proofs.Ytmidpekkomhogaa.Dpt
