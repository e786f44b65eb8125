/- Groups: what Do answers at any aggregation but the greatest ones. -/
import Derived.Test.YtbdnonphkobkoaaGreatGsc
import Derived.Test.YtbdnonphkobkoaaGreatGrq
namespace Go.Proofs.YtbdnonphkobkoaaGreat.Grp
open Go.RowKit Go.Lib Go.Sort Vec Fix

theorem small_right {xs : List Rw} (h : rightR xs = true) : SmR xs := fun x hx => right_small ((right_fit h).2.1 x hx).1
theorem vals_gen (name : ByteArray) (n mode : Int) (on o : Option Addr) (nn cn nx c : Nat) (ns : List ByteArray) (xs : List Rw) (w : World) (a : Nat × Int) (ha : aggF name n = some a) (h6 : a.1 ≠ 6) (h0 : ∀ g ∈ splitR mode ns xs, (numF a (nums g.2)).2 = 0) (hnn : ns.length = nn) (hn : xs.length = nx) (hr : rightR xs = true) (hmn : nn ≤ maxLen) (hm : nx ≤ 1000) (hS : RowsS w 0 o xs) (hN : SeesN w on ns) (l : List Rw) (hl : valsOf a (splitR mode ns xs) = l) (m : Nat) (hlm : l.length = m) :
    Calls Tryz.prog 29 #[.string name, .int .i64 n, .int .i64 mode, .slice on nn cn, .slice o nx c] w fun e w' => (∃ o' c', e = .returned (.tuple #[.slice o' m c', .int .i64 0]) ∧ RowsS w' 0 o' l) ∧ Below w.heap.size w w' := by
  subst hl hlm
  refine (do_ok name n mode on o nn cn nx c ns xs w a ha (fun g hg => reck_none (h0 g hg)) hnn hn hr (small_right hr) hmn hm 0 (Nat.zero_le _) hS hN).mono ?_
  rintro e w' ⟨⟨v, us, s, rfl, ho, hp, hs⟩, hb⟩
  rw [rows_vals h6 h0] at hp
  have hv := vals_rise a mode ns xs
  obtain rfl : valsOf a (splitR mode ns xs) = s := sorted_sameR hp.symm (rises_sorted hv) hs hv
  obtain ⟨o', c', rfl, hs, _⟩ := ho.sees (frow (B := 0))
  exact ⟨⟨o', c', rfl, hs⟩, hb⟩

end Go.Proofs.YtbdnonphkobkoaaGreat.Grp
