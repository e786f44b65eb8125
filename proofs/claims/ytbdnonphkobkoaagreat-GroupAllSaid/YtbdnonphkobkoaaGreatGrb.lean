/- The labels of a row's group: the walk. -/
import Derived.Test.YtbdnonphkobkoaaGreatGra
import Derived.Test.YtbdnonphkobkoaaGreatGh
import Derived.Deep.QuietTactic
namespace Go.Proofs.YtbdnonphkobkoaaGreat.Grp
open Go.RowKit Go.Lib Vec

theorem own_nil (w : World) (B : Nat) (t : TypeId) (k : Nat) : w.ownsRow B t k (.slice none 0 0) 0 [] := ⟨by simp, .inl ⟨rfl, rfl⟩⟩

set_option maxHeartbeats 2000000 in
set_option maxRecDepth 100000 in
theorem by_any (mode : Int) (on o : Option Addr) (nn cn n c : Nat) (ns : List ByteArray) (l : Labs) (w : World) (hnn : ns.length = nn) (hn : l.length = n) (hl : SmL l) (hmn : nn ≤ maxLen) (hS : Go.Proofs.YtbdnonphkobkoaaGreat.SeesO w o l) (hN : SeesN w on ns) :
    Calls Tryz.prog 32 #[.int .i64 mode, .slice on nn cn, .slice o n c] w (KeyIs w (byR mode ns l)) := by
  have HK := Lib.hid (fun W (hb : Hid (Below w.heap.size w W)) => key_any mode on o nn cn n c ns l W hnn hn hl hmn (hS.below hb.out) (hN.below hb.out))
  by_cases h1 : mode = 1
  · subst h1
    have HB := Lib.hid (show byR 1 ns l = keyR 1 ns l from rfl)
    clear hl hS hN hnn hn hmn
    go_enter Tryz.func32, Tryz.ntmps32
    go_wp2_with fail
    refine (HK.out w (Below.refl _ _)).mono ?_
    rintro e w2 ⟨⟨v, rfl, hv⟩, hb⟩
    have HR := Lib.hid (And.intro hv hb)
    clear hv hb HK
    go_wp2
    go_ret
    rw [HB.out]
    exact ⟨⟨_, rfl, HR.out.1⟩, HR.out.2⟩
  · by_cases h2 : mode = 2
    · subst h2
      have HB := Lib.hid (show byR 2 ns l = keyR 2 ns l from rfl)
      clear hl hS hN hnn hn hmn h1
      go_enter Tryz.func32, Tryz.ntmps32
      go_wp2_with fail
      refine (HK.out w (Below.refl _ _)).mono ?_
      rintro e w2 ⟨⟨v, rfl, hv⟩, hb⟩
      have HR := Lib.hid (And.intro hv hb)
      clear hv hb HK
      go_wp2
      go_ret
      rw [HB.out]
      exact ⟨⟨_, rfl, HR.out.1⟩, HR.out.2⟩
    · have HB := Lib.hid (show byR mode ns l = [] from by unfold byR; rw [if_neg (by omega)])
      have i1 : (mode == 1) = false := beq_eq_false_iff_ne.2 h1
      have i2 : (mode == 2) = false := beq_eq_false_iff_ne.2 h2
      clear hl hS hN hnn hn hmn HK
      go_enter Tryz.func32, Tryz.ntmps32
      go_wp2
      go_ret
      rw [HB.out]
      exact ⟨⟨_, rfl, own_nil _ _ _ _⟩, Below.refl _ _⟩
end Go.Proofs.YtbdnonphkobkoaaGreat.Grp
