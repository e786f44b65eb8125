/- WindowTells, proved for every points, every time, every while and every text: the points of a while, the last one, and each function of them, or the error, are what the document says; what is handed in stays, and what was answered stays apart. No condition. -/
import Derived.Test.YthbameabfmoibaaGreatVrs
import Derived.Test.YthbameabfmoibaaGreatVu
namespace Go.Proofs.YthbameabfmoibaaGreat.windowTellsLaw
open Go.ChangeShapes Go.WideShapes Go.ChangeAt Go.RowKit
open Go.ChangeMaps (open_string shut_string)

set_option maxRecDepth 100000 in
theorem lifted (os : Os) (started : os.Started) (H : Type) (enc : TypeId × Value → H) :
    ReturnsInHanded {} Tryz.checked os 3 .any (Rows.windowTellsSpec.pre6 enc Tryz.prog Tryz.f3 Rows.windowTellsRow.domain false) (Rows.windowTellsSpec.post enc Tryz.prog Tryz.f3 false true false false) := by
  refine returnsInHanded_of_change (C := Tryz.checked) own started (by kernel_rfl) Tryz.func3
    (ChangeSpec.witness6 (enc := enc) (C := Tryz.checked) false ⟨#[], #[.slice none 0 0, .int .i64 0, .int .i64 0, .string ⟨#[]⟩], []⟩ 8 (by kernel_rfl) (by kernel_rfl) (by kernel_rfl) (by kernel_rfl)) ?_
  intro W base args ds gs before hval0 hW _ _
  have hval : ∀ (j : Nat) t v, Tryz.f3.params[j]? = some t → args[j]? = some v → Value.okWide Tryz.prog W .any base t v := hval0
  have hW' := hW
  obtain ⟨p, q, hA0, hV, rfl, hfz, hnd⟩ := hW
  have hA : DataW.TrodAll enc Tryz.prog W 0 (fun _ => true) true Tryz.f3.params.toList args.toList ds p := hA0
  rw [Tryz.params3] at hA hval
  obtain ⟨v0, v1, v2, v3, d0, d1, d2, d3, p0, p1, p2, p3, rfl, rfl, rfl, h0, h1, h2, h3⟩ := trodAll_four hA
  obtain ⟨rfl, rfl⟩ := trodVars_none hV
  obtain ⟨o0, l0, c0, rfl⟩ := okWide_slice Tryz.underlying22 (hval 0 22 v0 rfl rfl)
  obtain ⟨b, rfl, rfl, rfl, w1⟩ := open_int Tryz.underlying3 (hval 1 3 v1 rfl rfl) h1
  obtain ⟨c, rfl, rfl, rfl, w2⟩ := open_int Tryz.underlying3 (hval 2 3 v2 rfl rfl) h2
  obtain ⟨d, rfl, rfl, rfl, w3⟩ := open_string Tryz.underlying9 (hval 3 9 v3 rfl rfl) h3
  clear hA0 hval0
  try simp only [List.append_nil] at hW'
  try simp only [List.nil_append, List.append_nil] at hW'
  have hlt : ∀ x ∈ p0, x.block < W.heap.size := fun x hx => hW'.lt x (by simpa using hx)
  have h0k := h0
  obtain ⟨f0, hf0⟩ := h0
  obtain ⟨xs, hx, hxm, hxs, _, _, hxc, _⟩ := points_of hf0
  subst hx
  refine (Win.wtells_any o0 c0 xs b c d W hxm hxc w3 hxs).mono fun e W' ⟨he, hb⟩ => ?_
  subst he
  exact ⟨_, rfl, _, _, _, [], p0, [], hW', trodAll_mk1 (shut_bool Tryz.underlying4 _), (by have hk := trodAll_mk4 (Below.trod laidOut (by kernel_rfl) (of_decide_eq_true (by kernel_rfl)) h0k hb (fun x hx => hlt x (by first | exact hx | (simp only [List.mem_append]; simp [hx])))) (shut_int Tryz.underlying3 w1) (shut_int Tryz.underlying3 w2) (shut_string Tryz.underlying9 w3); first | exact hk | (rw [← List.append_assoc] at hk; exact hk) | (rw [← List.append_assoc, ← List.append_assoc] at hk; exact hk) | (simp only [List.append_nil] at hk; exact hk) | (simp only [List.append_nil] at hk; exact hk) | (simp only [List.nil_append] at hk; exact hk) | (simp only [List.append_nil, List.nil_append] at hk; exact hk)), rfl, hb.frame _, fun h => by cases h⟩

theorem said : Rows.WindowTellsSaid :=
  OpenClaim.holds_of_wide 3 Tryz.f3 rfl rfl rfl rfl rfl rfl rfl ⟨rfl, rfl, rfl, rfl, rfl⟩ rfl rfl rfl rfl rfl (by kernel_rfl) Tryz.func3 (by kernel_rfl)
    (of_decide_eq_true (by kernel_rfl)) (by unfold Func.isWrapper; first | (rw [if_pos (by decide +kernel)]; kernel_rfl) | (rw [if_neg (by decide +kernel)]; exact ⟨rfl, rfl⟩))
    (fun os started H enc _ => lifted os started H enc)

end Go.Proofs.YthbameabfmoibaaGreat.windowTellsLaw
