/- Groups: the greatest rows, what comes of a group: walks. -/
import Derived.Test.YtbdnonphkobkoaaGreatGrk
import Derived.Lib.MinMax
namespace Go.Proofs.YtbdnonphkobkoaaGreat.Grp
open Go.RowKit Go.Lib Go.Sort Vec Fix

theorem own_formR {w : World} {B : Nat} {v : Value} {us : List (List Value)} {xs : List Rw} (h : OwnR w B v us xs) (h0 : xs ≠ []) : ∃ g c, v = .slice (some ⟨g, 0, none⟩) xs.length c ∧ xs.length ≤ c ∧ SeesG (ERow 0) 2 w g 0 xs := by
  have hl := h.len
  have hp : 0 < xs.length := List.length_pos_iff.2 h0
  rcases h.own.2 with ⟨_, hz⟩ | ⟨g, c, cur, e, _, _, hc, _⟩
  · omega
  · obtain ⟨o2, c2, e2, hs, _⟩ := h.sees frow
    rw [e] at e2
    obtain ⟨e3, _, _⟩ := Value.slice.inj e2
    rcases hs with hs | ⟨b, off, e4, hs⟩
    · exact absurd hs h0
    · rw [← e3] at e4; cases e4
      exact ⟨g, c, by rw [e, hl], by omega, hs⟩

set_option maxHeartbeats 4000000 in
set_option maxRecDepth 100000 in
theorem greatest_any (most : Int) (b n cap : Nat) (xs : List Rw) (w : World) (h1 : 1 ≤ most) (h2 : most ≤ 2000) (hn : xs.length = n) (h0 : xs ≠ []) (hm : n ≤ 100000) (hS : SeesG (ERow 0) 2 w b 0 xs) :
    Calls Tryz.prog 135 #[.int .i64 most, .slice (some ⟨b, 0, none⟩) n cap] w fun e w' => ∃ o k c, e = .returned (.slice o k c) ∧ k = ((Stb.srt ltV xs).take most.toNat).length ∧ RowsS w' 0 o ((Stb.srt ltV xs).take most.toNat) ∧ Below w.heap.size w w' := by
  have HC := Lib.hid (cloneRows_any b n cap xs w hn h0 hm hS)
  have HN := Lib.hid hn
  have H0 := Lib.hid h0
  obtain ⟨q, hq⟩ : ∃ q : Nat, (q : Int) = most := ⟨most.toNat, by omega⟩
  subst hq
  rw [show (q : Int).toNat = q by omega]
  clear hS hn h0
  go_enter Tryz.func135, Tryz.ntmps135
  go_wp2_with fail
  refine HC.out.mono ?_
  rintro e w2 ⟨v, us, rfl, ho, hb⟩
  have HSo := Lib.hid (sortV_any (by rw [HN.out]; omega) ho)
  have HB := Lib.hid hb
  have HLT := Lib.hid (fun g hg => (ho.own.lt g hg).1)
  clear ho hb HC
  go_wp2_with fail
  refine HSo.out.mono ?_
  rintro e w3 ⟨rfl, us3, ho3, hg3⟩
  have HB3 := Lib.hid (show Below w.heap.size w w3 from HB.out.grown hg3 HB.out.size HLT.out)
  have hl3 : (Stb.srt ltV xs).length = n := by rw [Stb.srt_len]; exact HN.out
  have hne3 : Stb.srt ltV xs ≠ [] := fun h => by rw [h] at hl3; exact H0.out (List.eq_nil_of_length_eq_zero (by rw [HN.out]; exact hl3.symm))
  obtain ⟨g, c, rfl, hc, hs⟩ := own_formR ho3 hne3
  rw [hl3] at hc ⊢
  have HR := Lib.hid (show RowsS w3 0 (some ⟨g, 0, none⟩) (Stb.srt ltV xs) from .inr ⟨g, 0, rfl, hs⟩)
  have HL3 := Lib.hid hl3
  clear ho3 hg3 hs hl3 hne3 HSo HLT
  have HK := Lib.hid (show (min (q : Int) (n : Int)).toNat = ((Stb.srt ltV xs).take q).length by rw [List.length_take, HL3.out]; omega)
  go_wp2
  go_ret
  exact ⟨some ⟨g, 0, none⟩, _, c, rfl, HK.out, sees_take HR.out q, HB3.out⟩

def reckG (a : Nat × Int) (g : Grp) : List Rw × Int :=
  if a.1 = 6 then ((Stb.srt ltV g.2).take a.2.toNat, 0) else if (numF a (nums g.2)).2 = 0 then ([(g.1, (numF a (nums g.2)).1)], 0) else ([], (numF a (nums g.2)).2)

theorem number_any (a : Nat × Int) (ha : a.1 < 6) (o : Option Addr) (n cap : Nat) (zs : List Int) (w : World) (hn : zs.length = n) (hm : n ≤ 1000) (h0 : zs ≠ []) (hS : SeesI w o zs) :
    Calls Tryz.prog 136 #[aggV a, .slice o n cap] w fun e w' => e = .returned (.tuple #[.int .i64 (numF a zs).1, .int .i64 (numF a zs).2]) ∧ Below w.heap.size w w' := by
  obtain ⟨k, p⟩ := a
  match k, ha with
  | 0, _ => exact number0 p o n cap zs w hn hm h0 hS
  | 1, _ => exact number1 p o n cap zs w hn hm h0 hS
  | 2, _ => exact number2 p o n cap zs w hn hm h0 hS
  | 3, _ => exact number3 p o n cap zs w hn hm h0 hS
  | 4, _ => exact number4 p o n cap zs w hn hm h0 hS
  | 5, _ => exact number5 p o n cap zs w hn hm h0 hS

/-- What comes of a group: rows that can be seen, and an error. -/
def ReckIs (w : World) (r : List Rw × Int) (e : Ending) (w' : World) : Prop := (∃ o k c, e = .returned (.tuple #[.slice o k c, .int .i64 r.2]) ∧ k = r.1.length ∧ RowsS w' 0 o r.1) ∧ Below w.heap.size w w'

theorem ta6 (a : Nat × Int) (ha : a.1 < 6) (W : World) : (Instr.typeAssert (aggV a) 109 168 true).run Tryz.prog W = .ok (.tuple #[.agg #[.int .i64 0], .bool false]) W := by
  obtain ⟨k, p⟩ := a
  match k, ha with
  | 0, _ => exact ga0_6 p W
  | 1, _ => exact ga1_6 p W
  | 2, _ => exact ga2_6 p W
  | 3, _ => exact ga3_6 p W
  | 4, _ => exact ga4_6 p W
  | 5, _ => exact ga5_6 p W

set_option maxHeartbeats 4000000 in
set_option maxRecDepth 100000 in
theorem reckonTop_any (p : Int) (h1 : 1 ≤ p) (h2 : p ≤ 2000) (oK : Option Addr) (nK cK b n cap : Nat) (g : Grp) (w : World) (hn : g.2.length = n) (h0 : g.2 ≠ []) (hm : n ≤ 1000) (hS : SeesG (ERow 0) 2 w b 0 g.2) :
    Calls Tryz.prog 98 #[aggV (6, p), .agg #[.slice oK nK cK, .slice (some ⟨b, 0, none⟩) n cap]] w (ReckIs w (reckG (6, p) g)) := by
  have HC := Lib.hid (fun W (hb : Below w.heap.size w W) => greatest_any p b n cap g.2 W h1 h2 hn h0 (by omega) ((SeesG.below frow hS hb)))
  have hr : reckG (6, p) g = ((Stb.srt ltV g.2).take p.toNat, 0) := by unfold reckG; rw [if_pos rfl]
  rw [hr]
  generalize (Stb.srt ltV g.2).take p.toNat = R at HC ⊢
  have a6 := ga6_6 p
  have HB0 := Lib.hid (show Below w.heap.size w ((w.alloc (Obj.cells #[.slice oK nK cK, .slice (some ⟨b, 0, none⟩) n cap] 115)).alloc (Obj.cells #[.int .i64 p] 168)) from (((Below.refl w.heap.size w).alloc (Nat.le_refl _) _).alloc (by simp) _))
  clear hS hr hn h0
  show Calls _ _ #[.iface 168 (.agg #[.int .i64 p]), _] _ _
  go_enter Tryz.func98, Tryz.ntmps98
  go_wp2_with fail
  refine (HC.out _ HB0.out).mono ?_
  rintro e w2 ⟨o, k, c, rfl, hk, hs, hb⟩
  have HR := Lib.hid (show (k = R.length ∧ RowsS w2 0 o R) ∧ Below w.heap.size w w2 from ⟨⟨hk, hs⟩, HB0.out.trans (hb.mono HB0.out.size)⟩)
  clear hk hs hb
  go_wp2
  go_ret2
  exact ⟨⟨o, k, c, rfl, HR.out.1.1, HR.out.1.2⟩, HR.out.2⟩

set_option maxHeartbeats 4000000 in
set_option maxRecDepth 100000 in
theorem reckonNum_any (a : Nat × Int) (ha : a.1 < 6) (oK : Option Addr) (nK cK b n cap : Nat) (g : Grp) (w : World) (hK : g.1.length = nK) (hn : g.2.length = n) (h0 : g.2 ≠ []) (hm : n ≤ 1000) (hL : LabS w 0 oK g.1) (hl : g.1.length ≤ maxLen) (hS : SeesG (ERow 0) 2 w b 0 g.2) :
    Calls Tryz.prog 98 #[aggV a, .agg #[.slice oK nK cK, .slice (some ⟨b, 0, none⟩) n cap]] w (ReckIs w (reckG a g)) := by
  have HC := Lib.hid (fun W (hb : Below w.heap.size w W) => numbers_any (some ⟨b, 0, none⟩) n cap g.2 W 0 hn (by omega) (.inr ⟨b, 0, rfl, SeesG.below frow hS hb⟩))
  have HNu := Lib.hid (fun W o2 c2 (h : SeesI W o2 (nums g.2)) => number_any a ha o2 n c2 (nums g.2) W (by simp [nums, hn]) hm (by simpa [nums] using h0) h)
  have a6 := ta6 a ha
  have HLL := Lib.hid (And.intro hL hl)
  have HK := Lib.hid hK
  obtain ⟨r, hr⟩ : ∃ r, numF a (nums g.2) = r := ⟨_, rfl⟩
  have hrk : reckG a g = if r.2 = 0 then ([(g.1, r.1)], 0) else ([], r.2) := by unfold reckG; rw [if_neg (by omega), hr]
  rw [hr] at HNu
  obtain ⟨RR, hRR⟩ : ∃ RR, reckG a g = RR := ⟨_, rfl⟩
  have HRR := Lib.hid (show (r.2 = 0 → RR = ([(g.1, r.1)], 0)) ∧ (¬ r.2 = 0 → RR = ([], r.2)) from by
    rw [← hRR, hrk]
    exact ⟨fun h => if_pos h, fun h => if_neg h⟩)
  rw [hRR]
  clear hRR
  generalize aggV a = av at HNu a6 ⊢
  have HB0 := Lib.hid (show Below w.heap.size w ((w.alloc (Obj.cells #[.slice oK nK cK, .slice (some ⟨b, 0, none⟩) n cap] 115)).alloc (Obj.cells #[.int .i64 0] 168)) from (((Below.refl w.heap.size w).alloc (Nat.le_refl _) _).alloc (by simp) _))
  have HBX := Lib.hid (show ∀ W, Below ((w.alloc (Obj.cells #[.slice oK nK cK, .slice (some ⟨b, 0, none⟩) n cap] 115)).alloc (Obj.cells #[.int .i64 0] 168)).heap.size ((w.alloc (Obj.cells #[.slice oK nK cK, .slice (some ⟨b, 0, none⟩) n cap] 115)).alloc (Obj.cells #[.int .i64 0] 168)) W → W.cell? ⟨w.heap.size, 0, none⟩ = some (.slice oK nK cK) ∧ W.cell? ⟨w.heap.size, 1, none⟩ = some (.slice (some ⟨b, 0, none⟩) n cap) by
    intro W h
    have h1 := (((Below.refl (w.alloc (Obj.cells #[.slice oK nK cK, .slice (some ⟨b, 0, none⟩) n cap] 115)).heap.size (w.alloc (Obj.cells #[.slice oK nK cK, .slice (some ⟨b, 0, none⟩) n cap] 115))).alloc (Nat.le_refl _) (Obj.cells #[.int .i64 0] 168)).trans (h.mono (by simp)))
    exact ⟨boxk w [.slice oK nK cK, .slice (some ⟨b, 0, none⟩) n cap] _ W h1 0 _ rfl, boxk w [.slice oK nK cK, .slice (some ⟨b, 0, none⟩) n cap] _ W h1 1 _ rfl⟩)
  clear hS hrk hn h0 hr hL hl hK
  go_enter Tryz.func98, Tryz.ntmps98
  go_wp2_with fail
  refine (HC.out _ HB0.out).mono ?_
  rintro e w2 ⟨⟨o2, c2, rfl, hs2⟩, hb2⟩
  have HN2 := Lib.hid (HNu.out w2 o2 c2 hs2)
  have HB2 := Lib.hid hb2
  clear hs2 hb2 HNu HC
  go_wp2_with fail
  refine HN2.out.mono ?_
  rintro e w3 ⟨rfl, hb3⟩
  have HB3 := Lib.hid (HB2.out.trans (hb3.mono HB2.out.size))
  have HBW := Lib.hid (show Below w.heap.size w w3 from HB0.out.trans (HB3.out.mono HB0.out.size))
  obtain ⟨s0, s1⟩ := HBX.out w3 HB3.out
  obtain ⟨r1, r2⟩ := r
  clear hb3 HN2
  by_cases hr2 : r2 = 0
  · subst hr2
    go_wp2
    go_ret2
    rw [show RR = ([(g.1, r1)], 0) from by first | exact HRR.out.1 rfl | exact HRR.out.1 trivial | exact HRR.out.1 | exact HRR.out]
    have hlab := HLL.out.1.below HBW.out
    refine ⟨⟨_, 1, 1, rfl, rfl, .inr ⟨w3.heap.size, 0, rfl, by simp, fun j x hx => ?_⟩⟩, HBW.out.alloc HBW.out.size _⟩
    match j, hx with
    | 0, hx =>
      simp at hx; subst hx
      refine ⟨[.slice oK nK cK, .int .i64 r1], ⟨oK, cK, by rw [HK.out], hlab.below ((Below.refl _ _).alloc (Nat.le_refl _) _), HLL.out.2⟩, fun i v hv => ?_⟩
      have := cells_k w3 [.slice oK nK cK, .int .i64 r1] 53 i v hv
      rw [Addr.add_lit] at this
      simpa using this
    | j + 1, hx => simp at hx
  · have t1 : (r2 != 0) = true := by simp [hr2]
    have t2 : (r2 == 0) = false := by simp [hr2]
    go_wp2
    go_ret2
    rw [show RR = ([], r2) from by first | exact HRR.out.2 hr2 | exact HRR.out.2 | exact HRR.out]
    exact ⟨⟨none, 0, 0, rfl, rfl, .inl rfl⟩, HBW.out⟩
end Go.Proofs.YtbdnonphkobkoaaGreat.Grp
