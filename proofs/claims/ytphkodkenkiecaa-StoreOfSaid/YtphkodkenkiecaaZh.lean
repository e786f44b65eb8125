/- Walks: the document's own Right; both Tidys in one form. -/
import Derived.Test.YtphkodkenkiecaaZg
import Derived.Test.YtphkodkenkiecaaMg13
namespace Go.Proofs.Ytphkodkenkiecaa
open Go.RowKit Go.Lib

theorem right_tidy {xs : List Lab} (h : rightB xs = true) : tidyB xs = true ∧ sortL xs = xs := by
  obtain ⟨a, b⟩ := sorted_right (List.Perm.refl xs) (right_sorted h)
  exact ⟨by rw [← b]; exact h, (a h).symm⟩
/-- What a Tidy leaves. -/
def tidyT (xs : List Lab) : List Lab := if tidyB xs = true then sortL xs else []
def tidyE (b : Bool) : Int := if b then 0 else 1
theorem tidyT_len (xs : List Lab) : (tidyT xs).length ≤ xs.length := by
  unfold tidyT; split
  · rw [(sortL_perm xs).length_eq]; exact Nat.le_refl _
  · exact Nat.zero_le _
theorem rtidy_form (o : Option Addr) (cap : Nat) (xs : List Lab) (w : World) (hm : xs.length ≤ 1000000) (hS : SeesO w o xs) (hv : ∀ x ∈ xs, x.1.size ≤ 1000 ∧ x.2.size ≤ 1000) :
    Calls Try.prog 21 #[.slice o xs.length cap] w fun e w' => (∃ o2 c2, e = .returned (.tuple #[.slice o2 (tidyT xs).length c2, .bool (tidyB xs)]) ∧ SeesO w' o2 (tidyT xs)) ∧ Below w.heap.size w w' := by
  refine (rtidy_any o cap xs w hm hS hv).mono ?_
  rintro e w' ⟨h, hb⟩
  refine ⟨?_, hb⟩
  rcases h with ⟨ht, v, rfl, hown⟩ | ⟨ht, rfl⟩
  · obtain ⟨o2, c2, rfl, hs, _⟩ := own_sees hown
    have e1 : tidyT xs = sortL xs := if_pos ht
    rw [e1, ht]
    exact ⟨o2, c2, rfl, hs⟩
  · have e1 : tidyT xs = [] := if_neg (by rw [ht]; exact fun h => by cases h)
    rw [e1, ht]
    exact ⟨none, 0, rfl, .inl rfl⟩

set_option maxHeartbeats 4000000 in
set_option maxRecDepth 100000 in
theorem rright_any (o : Option Addr) (cap : Nat) (xs : List Lab) (w : World) (hm : xs.length ≤ 1000000) (hS : SeesO w o xs) (hv : ∀ x ∈ xs, x.1.size ≤ 1000 ∧ x.2.size ≤ 1000) :
    Calls Try.prog 8 #[.slice o xs.length cap] w fun e w' => e = .returned (.bool (rightB xs)) ∧ Below w.heap.size w w' := by
  obtain ⟨n, hn⟩ : ∃ n, xs.length = n := ⟨_, rfl⟩
  have HTI := Lib.hid (rtidy_form o cap xs w hm hS hv)
  have HCO := Lib.hid (fun W (h : Below w.heap.size w W) (o2 : Option Addr) (c2 : Nat) (h2 : SeesO W o2 (tidyT xs)) => rcompare_any o2 o c2 cap (tidyT xs) xs W (by have := tidyT_len xs; unfold maxLen; omega) (by unfold maxLen; omega) h2 (hS.below h))
  have hR : rightB xs = (tidyB xs && (cmpL (tidyT xs) xs == 0)) := by
    rw [Bool.eq_iff_iff, Bool.and_eq_true, beq_iff_eq, cmpL_zero]
    constructor
    · intro h
      obtain ⟨a, b⟩ := right_tidy h
      exact ⟨a, by unfold tidyT; rw [if_pos a]; exact b⟩
    · rintro ⟨a, b⟩
      unfold tidyT at b
      rw [if_pos a] at b
      rw [← b]; exact a
  rw [hn] at HTI HCO hm ⊢
  rw [hR]
  obtain ⟨q, hq⟩ : ∃ q, tidyB xs = q := ⟨_, rfl⟩
  obtain ⟨m, hm2⟩ : ∃ m, (tidyT xs).length = m := ⟨_, rfl⟩
  obtain ⟨z, hz⟩ : ∃ z, cmpL (tidyT xs) xs = z := ⟨_, rfl⟩
  rw [hq, hm2] at HTI
  rw [hz, hm2] at HCO
  rw [hq, hz]
  clear hq hz hR hS hv
  cases q with
  | true =>
    go_enter Try.func8, Try.ntmps8
    go_wp2_with fail
    refine HTI.out.mono ?_
    rintro e w1 ⟨⟨o2, c2, rfl, hs2⟩, b1⟩
    have HB1 := Lib.hid b1
    have HC2 := Lib.hid (HCO.out w1 b1 o2 c2 hs2)
    clear hs2 b1
    go_wp2_with fail
    refine HC2.out.mono ?_
    rintro e w2 ⟨rfl, b2⟩
    have HB2 := Lib.hid (HB1.out.trans (b2.mono HB1.out.size))
    clear b2
    go_wp2
    go_ret
    exact ⟨by first | rfl | simp, HB2.out⟩
  | false =>
    go_enter Try.func8, Try.ntmps8
    go_wp2_with fail
    refine HTI.out.mono ?_
    rintro e w1 ⟨⟨o2, c2, rfl, hs2⟩, b1⟩
    have HB1 := Lib.hid b1
    clear b1 hs2
    go_wp2
    go_ret
    exact ⟨by first | rfl | simp, HB1.out⟩
end Go.Proofs.Ytphkodkenkiecaa
