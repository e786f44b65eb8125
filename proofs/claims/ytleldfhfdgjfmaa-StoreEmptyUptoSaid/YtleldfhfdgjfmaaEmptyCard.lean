/- The statement on labels that are not there, of bulk at most the bound. -/
import Derived.Test.YtleldfhfdgjfmaaMg12
import Derived.Test.YtleldfhfdgjfmaaMg14
import Derived.JoinedCond
namespace Go.Proofs.Ytleldfhfdgjfmaa.storeEmptyLaw
open Go.ChangeShapes Go.WideShapes Go.ChangeAt Go.RowKit
open Go.ChangeMaps (open_string shut_string)

theorem short {H : Type} {d : DataW H} {gs : List (DataW H)} {s : ByteArray} (hk : Rows.uptoSmall H ([d, .lit (.string s.data.toList)] ++ gs) = true) : s.size ≤ 1048576 := by
  have h : Rows.uptoBulkAll ([d, DataW.lit (H := H) (.string s.data.toList)] ++ gs) ≤ 1048576 := of_decide_eq_true hk
  simp only [List.cons_append, List.nil_append, Rows.uptoBulkAll, Rows.uptoBulk, Array.length_toList] at h
  have : s.size = s.data.size := rfl
  omega

set_option maxRecDepth 100000 in
theorem lifted (os : Os) (started : os.Started) (H : Type) (enc : TypeId × Value → H) (F : Stop.Interp) :
    ReturnsInHanded {} Try.checked os 7 .any ((Rows.OpenSpec.upto Rows.storeEmptySpec).pre6 enc Try.prog Try.f7 Rows.storeEmptyUptoRow.domain false) (((Rows.OpenSpec.upto Rows.storeEmptySpec).at F).post enc Try.prog Try.f7 false true false false) := by
  refine returnsInHanded_of_cond (C := Try.checked) (s := Rows.OpenSpec.upto Rows.storeEmptySpec) (k := Rows.uptoSmall) rfl own started (by kernel_rfl) Try.func7
    (OpenSpec.witness (enc := enc) (C := Try.checked) (s := Rows.OpenSpec.upto Rows.storeEmptySpec) (k := Rows.uptoSmall) rfl false ⟨#[], #[.slice none 0 0, .string ⟨#[]⟩], []⟩ 8 (by kernel_rfl) (by kernel_rfl) (by kernel_rfl)
      (x := ([.nil, .lit (.string [])], [], [])) (by kernel_rfl) rfl (by kernel_rfl)) ?_
  intro W base args ds gs before hval0 hW _ hk _
  have hval : ∀ (j : Nat) t v, Try.f7.params[j]? = some t → args[j]? = some v → Value.okWide Try.prog W .any base t v := hval0
  have hW' := hW
  obtain ⟨p, q, hA0, hV, rfl, hfz, hnd⟩ := hW
  have hA : DataW.TrodAll enc Try.prog W 0 (fun _ => true) true Try.f7.params.toList args.toList ds p := hA0
  rw [Try.params7] at hA hval
  obtain ⟨v0, v1, d0, d1, p0, p1, rfl, rfl, rfl, h0, h1⟩ := trodAll_two hA
  obtain ⟨rfl, rfl⟩ := trodVars_none hV
  obtain ⟨o0, l0, c0, rfl⟩ := okWide_slice Try.underlying39 (hval 0 39 v0 rfl rfl)
  obtain ⟨nm, rfl, rfl, rfl, w1⟩ := open_string Try.underlying9 (hval 1 9 v1 rfl rfl) h1
  have hnm := short hk
  clear hA0 hval0 hk
  try simp only [List.append_nil] at hW'
  try simp only [List.nil_append, List.append_nil] at hW'
  have hlt : ∀ x ∈ p0, x.block < W.heap.size := fun x hx => hW'.lt x (by simpa using hx)
  have h0k := h0
  obtain ⟨f0, hf0⟩ := h0
  obtain ⟨l, hl, hlm, hls⟩ := ops_of hf0
  refine (Sto.empty_any o0 _ c0 l nm W hl hlm hls (Nat.le_trans hnm (by decide))).mono fun e W' ⟨he, hb⟩ => ?_
  subst he
  exact ⟨_, rfl, _, _, _, [], p0, [], hW', trodAll_mk1 (shut_bool Try.underlying4 _), (by have hk := trodAll_mk2 (Below.trod laidOut (by kernel_rfl) (of_decide_eq_true (by kernel_rfl)) h0k hb (fun x hx => hlt x (by first | exact hx | (simp only [List.mem_append]; simp [hx])))) (shut_string Try.underlying9 w1); first | exact hk | (rw [← List.append_assoc] at hk; exact hk) | (rw [← List.append_assoc, ← List.append_assoc] at hk; exact hk) | (simp only [List.append_nil] at hk; exact hk) | (simp only [List.nil_append] at hk; exact hk) | (simp only [List.append_nil, List.nil_append] at hk; exact hk)), rfl, hb.frame _, fun h => by cases h⟩

theorem said : Rows.StoreEmptyUptoSaid :=
  OpenClaim.holds_of_cond 7 Try.f7 rfl rfl rfl rfl rfl rfl rfl ⟨rfl, rfl, rfl, rfl, rfl⟩ rfl rfl rfl rfl rfl (by kernel_rfl) Try.func7 (by kernel_rfl)
    (of_decide_eq_true (by kernel_rfl)) (by unfold Func.isWrapper; first | (rw [if_pos (by decide +kernel)]; kernel_rfl) | (rw [if_neg (by decide +kernel)]; exact ⟨rfl, rfl⟩))
    (fun os started H enc _ F => lifted os started H enc F)

end Go.Proofs.Ytleldfhfdgjfmaa.storeEmptyLaw
