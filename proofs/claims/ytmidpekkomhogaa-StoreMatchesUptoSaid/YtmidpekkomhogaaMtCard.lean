/- The statement on matchers and their contraries, of bulk at most the bound. -/
import Derived.Test.YtmidpekkomhogaaRows
import Derived.Test.YtmidpekkomhogaaOpm
import Derived.Test.YtmidpekkomhogaaSmw
import Derived.JoinedCond
namespace Go.Proofs.Ytmidpekkomhogaa.storeMatchesLaw
open Go.ChangeShapes Go.WideShapes Go.ChangeAt Go.RowKit

theorem short {H : Type} {d x1 x2 y1 y2 : DataW H} {gs : List (DataW H)} {s t : ByteArray} (hk : Rows.uptoSmall H ([d, .agg [.lit (.string s.data.toList), x1, x2], .agg [.lit (.string t.data.toList), y1, y2]] ++ gs) = true) : s.size ≤ 1048576 ∧ t.size ≤ 1048576 := by
  have h : Rows.uptoBulkAll ([d, DataW.agg (H := H) [.lit (.string s.data.toList), x1, x2], .agg [.lit (.string t.data.toList), y1, y2]] ++ gs) ≤ 1048576 := of_decide_eq_true hk
  simp only [List.cons_append, List.nil_append, Rows.uptoBulkAll, Rows.uptoBulk, Array.length_toList] at h
  have : s.size = s.data.size := rfl
  have : t.size = t.data.size := rfl
  omega

set_option maxRecDepth 100000 in
theorem lifted (os : Os) (started : os.Started) (H : Type) (enc : TypeId × Value → H) (F : Stop.Interp) :
    ReturnsInHanded {} Try.checked os 3 .any ((Rows.OpenSpec.upto Rows.storeMatchesSpec).pre6 enc Try.prog Try.f3 Rows.storeMatchesUptoRow.domain false) (((Rows.OpenSpec.upto Rows.storeMatchesSpec).at F).post enc Try.prog Try.f3 false true false false) := by
  refine returnsInHanded_of_cond (C := Try.checked) (s := Rows.OpenSpec.upto Rows.storeMatchesSpec) (k := Rows.uptoSmall) rfl own started (by kernel_rfl) Try.func3
    (OpenSpec.witness (enc := enc) (C := Try.checked) (s := Rows.OpenSpec.upto Rows.storeMatchesSpec) (k := Rows.uptoSmall) rfl false ⟨#[], #[.slice none 0 0, .agg #[.string ⟨#[]⟩, .int .i64 0, .string ⟨#[]⟩], .agg #[.string ⟨#[]⟩, .int .i64 0, .string ⟨#[]⟩]], []⟩ 8 (by kernel_rfl) (by kernel_rfl) (by kernel_rfl)
      (x := ([.nil, .agg [.lit (.string []), .lit (.int .i64 0), .lit (.string [])], .agg [.lit (.string []), .lit (.int .i64 0), .lit (.string [])]], [], [])) (by kernel_rfl) rfl (by kernel_rfl)) ?_
  intro W base args ds gs before hval0 hW _ hk _
  have hval : ∀ (j : Nat) t v, Try.f3.params[j]? = some t → args[j]? = some v → Value.okWide Try.prog W .any base t v := hval0
  have hW' := hW
  obtain ⟨p, q, hA0, hV, rfl, hfz, hnd⟩ := hW
  have hA : DataW.TrodAll enc Try.prog W 0 (fun _ => true) true Try.f3.params.toList args.toList ds p := hA0
  rw [Try.params3] at hA hval
  obtain ⟨v0, v1, v2, d0, d1, d2, p0, p1, p2, rfl, rfl, rfl, h0, h1, h2⟩ := trodAll_three hA
  obtain ⟨rfl, rfl⟩ := trodVars_none hV
  obtain ⟨o0, l0, c0, rfl⟩ := okWide_slice Try.underlying22 (hval 0 22 v0 rfl rfl)
  obtain ⟨mn, mv, mo, rfl, rfl, rfl, wm0, wm1, wm2⟩ := open_matcher (hval 1 24 v1 rfl rfl) h1
  obtain ⟨pn, pv, po, rfl, rfl, rfl, wp0, wp1, wp2⟩ := open_matcher (hval 2 24 v2 rfl rfl) h2
  obtain ⟨hmn, hpn⟩ := short hk
  clear hA0 hval0 hk
  simp only [List.append_nil] at hW'
  have hlt : ∀ x ∈ p0, x.block < W.heap.size := fun x hx => hW'.lt x (by simpa using hx)
  have h0k := h0
  obtain ⟨f0, hf0⟩ := h0
  obtain ⟨l, hl, hlm, hls⟩ := ops_of hf0
  refine (Sto.matches_any o0 _ c0 l mn mv pn pv mo po W hl hlm hls (Nat.le_trans hmn (by decide)) (Nat.le_trans hpn (by decide))).mono fun e W' ⟨he, hb⟩ => ?_
  subst he
  exact ⟨_, rfl, _, _, _, [], p0, [], hW', trodAll_mk1 (shut_bool Try.underlying4 _), (by have hk := trodAll_mk3 (Below.trod laidOut (by kernel_rfl) (of_decide_eq_true (by kernel_rfl)) h0k hb (fun x hx => hlt x hx)) (shut_matcher wm0 wm1 wm2) (shut_matcher wp0 wp1 wp2); simp only [List.append_nil] at hk; exact hk), rfl, hb.frame _, fun h => by cases h⟩

theorem said : Rows.StoreMatchesUptoSaid :=
  OpenClaim.holds_of_cond 3 Try.f3 rfl rfl rfl rfl rfl rfl rfl ⟨rfl, rfl, rfl, rfl, rfl⟩ rfl rfl rfl rfl rfl (by kernel_rfl) Try.func3 (by kernel_rfl)
    (of_decide_eq_true (by kernel_rfl)) (by unfold Func.isWrapper; first | (rw [if_pos (by decide +kernel)]; kernel_rfl) | (rw [if_neg (by decide +kernel)]; exact ⟨rfl, rfl⟩))
    (fun os started H enc _ F => lifted os started H enc F)

end Go.Proofs.Ytmidpekkomhogaa.storeMatchesLaw
