/- Groups: a first call whose answer the document fixes. -/
import Derived.Test.YtbdnonphkobkoaaGreatGrp
namespace Go.Proofs.YtbdnonphkobkoaaGreat.Grp
open Go.RowKit Go.Lib Go.Sort Vec

def l1 : Labs := [(⟨#[97]⟩, ⟨#[49]⟩), (⟨#[104]⟩, ⟨#[120]⟩)]
def l2 : Labs := [(⟨#[97]⟩, ⟨#[49]⟩), (⟨#[104]⟩, ⟨#[121]⟩)]
def la1 : Labs := [(⟨#[97]⟩, ⟨#[49]⟩)]
def lh1 : Labs := [(⟨#[104]⟩, ⟨#[120]⟩)]
def lh2 : Labs := [(⟨#[104]⟩, ⟨#[121]⟩)]
abbrev rl : List Rw := [(l1, 5), (l2, 7)]
abbrev nh : List ByteArray := [⟨#[104]⟩]
theorem rl_right : rightR rl = true := by kernel_rfl
theorem by_a1 : byR 2 nh l1 = la1 := by kernel_rfl
theorem by_a2 : byR 2 nh l2 = la1 := by kernel_rfl
theorem by_h1 : byR 1 nh l1 = lh1 := by kernel_rfl
theorem by_h2 : byR 1 nh l2 = lh2 := by kernel_rfl
theorem ones_2 : onesR 2 nh rl = [(la1, [(l1, 5)]), (la1, [(l2, 7)])] := by
  unfold onesR oneG; simp only [List.map_cons, List.map_nil, by_a1, by_a2]
theorem ones_1 : onesR 1 nh rl = [(lh1, [(l1, 5)]), (lh2, [(l2, 7)])] := by
  unfold onesR oneG; simp only [List.map_cons, List.map_nil, by_h1, by_h2]
theorem ones_0 : onesR 0 [] rl = [([], [(l1, 5)]), ([], [(l2, 7)])] := by
  unfold onesR oneG byR; simp
theorem two_srt {x y : Grp} (h : ltG y x = false) : Stb.srt ltG [x, y] = [x, y] := Stb.srt_self swoG (List.pairwise_cons.2 ⟨fun z hz => by simp at hz; subst hz; exact h, by simp⟩)
theorem join_two (x y : Grp) : joinR [x, y] = if sameL x.1 y.1 then [(x.1, x.2 ++ y.2)] else [x, y] := by
  unfold joinR
  rw [List.foldl_cons, joinF_nil, List.foldl_cons, List.foldl_nil]
  have := joinF_snoc [] x y
  simpa using this
theorem split_2 : splitR 2 nh rl = [(la1, rl)] := by
  unfold splitR
  rw [ones_2, two_srt (show ltG (la1, [(l2, 7)]) (la1, [(l1, 5)]) = false from by unfold ltG; rw [cmpL_self]; rfl), join_two, if_pos (sameL_refl _)]; rfl
theorem split_0 : splitR 0 [] rl = [([], rl)] := by
  unfold splitR
  rw [ones_0, two_srt (show ltG ([], [(l2, 7)]) ([], [(l1, 5)]) = false from by unfold ltG; rw [cmpL_self]; rfl), join_two, if_pos (sameL_refl _)]; rfl
theorem split_1 : (splitR 1 nh rl).length = 2 := by
  unfold splitR
  rw [ones_1, two_srt (by kernel_rfl), join_two, if_neg (by rw [sameL_iff]; intro h; cases h)]; rfl
theorem sum_is : reckG (0, 0) (la1, rl) = ([(la1, 12)], 0) := by
  unfold reckG
  rw [if_neg (by decide)]
  have : numF (0, 0) (nums rl) = (12, 0) := by show Fix.sumF [5, 7] = _; decide
  rw [show nums (la1, rl).2 = nums rl from rfl, this, if_pos rfl]
theorem srt_v : Stb.srt ltV rl = [(l2, 7), (l1, 5)] := by
  have h := Stb.mg_srt swoV [(l1, 5)] [(l2, 7)]
  rw [Stb.srt_one, Stb.srt_one, Stb.mg_cons, if_pos (by decide), Stb.mg_nil_right] at h
  exact h.symm
theorem top_is : reckG (6, 1) ([], rl) = ([(l2, 7)], 0) := by
  unfold reckG
  rw [if_pos rfl, srt_v]; rfl
theorem agg_sum : aggF ⟨#[115, 117, 109]⟩ 0 = some (0, 0) := by unfold aggF; rw [if_pos rfl]
theorem agg_top : aggF ⟨#[116, 111, 112, 107]⟩ 1 = some (6, 1) := by
  unfold aggF
  rw [if_neg (by decide), if_neg (by decide), if_neg (by decide), if_neg (by decide), if_neg (by decide), if_neg (by decide), if_pos rfl, if_pos (by decide)]
theorem sm_l : SmR rl := fun x hx => by
  have h := (right_fit rl_right).2.1 x hx
  exact right_small h.1

abbrev cL1 : Obj := .cells #[.string ⟨#[97]⟩, .string ⟨#[49]⟩, .string ⟨#[104]⟩, .string ⟨#[120]⟩] 62
abbrev cL2 : Obj := .cells #[.string ⟨#[97]⟩, .string ⟨#[49]⟩, .string ⟨#[104]⟩, .string ⟨#[121]⟩] 62
abbrev cRw (n : Nat) : Obj := .cells #[.slice (some ⟨n, 0, none⟩) 2 2, .int .i64 5, .slice (some ⟨n + 1, 0, none⟩) 2 2, .int .i64 7] 53
abbrev bW (w : World) : World := ((w.alloc cL1).alloc cL2).alloc (cRw w.heap.size)
theorem bW_below (w : World) : Below w.heap.size w (bW w) := (((Below.refl _ _).alloc (Nat.le_refl _) _).alloc (by simp) _).alloc (by simp; omega) _
theorem bW_rows (w : World) : RowsS (bW w) 0 (some ⟨w.heap.size + 2, 0, none⟩) rl := by
  have h1 : (bW w).heap[w.heap.size]? = some (.cells #[.string ⟨#[97]⟩, .string ⟨#[49]⟩, .string ⟨#[104]⟩, .string ⟨#[120]⟩] 62 (0, 0)) := by
    rw [Below.heap_alloc _ _ _ (by simp; omega), Below.heap_alloc _ _ _ (by simp)]; exact Array.getElem?_push_size
  have h2 : (bW w).heap[w.heap.size + 1]? = some (.cells #[.string ⟨#[97]⟩, .string ⟨#[49]⟩, .string ⟨#[104]⟩, .string ⟨#[121]⟩] 62 (0, 0)) := by
    rw [Below.heap_alloc _ _ _ (by simp)]
    have e : w.heap.size + 1 = (w.alloc cL1).heap.size := by simp
    rw [e]; exact Array.getElem?_push_size
  have h3 : (bW w).heap[w.heap.size + 2]? = some (.cells #[.slice (some ⟨w.heap.size, 0, none⟩) 2 2, .int .i64 5, .slice (some ⟨w.heap.size + 1, 0, none⟩) 2 2, .int .i64 7] 53 (0, 0)) := by
    have e : w.heap.size + 2 = ((w.alloc cL1).alloc cL2).heap.size := by simp
    rw [e]; exact Array.getElem?_push_size
  have s1 := heap_lt h1
  have s2 := heap_lt h2
  have lab : ∀ (b : Nat) (k v : ByteArray), (bW w).heap[b]? = some (.cells #[.string ⟨#[97]⟩, .string ⟨#[49]⟩, .string k, .string v] 62 (0, 0)) → LabS (bW w) 0 (some ⟨b, 0, none⟩) [(⟨#[97]⟩, ⟨#[49]⟩), (k, v)] := fun b k v hb => by
    refine ⟨.inr ⟨b, 0, rfl, heap_lt hb, fun j y hy => ?_, fun j y hy => ?_⟩, fun _ b' off e => .inr (by cases e; exact ⟨_, _, hb⟩)⟩
    · match j, hy with
      | 0, hy => simp at hy; subst hy; simp [World.cell?, hb]
      | 1, hy => simp at hy; subst hy; simp [World.cell?, hb]
      | j + 2, hy => simp at hy
    · match j, hy with
      | 0, hy => simp at hy; subst hy; simp [World.cell?, hb]
      | 1, hy => simp at hy; subst hy; simp [World.cell?, hb]
      | j + 2, hy => simp at hy
  refine .inr ⟨w.heap.size + 2, 0, rfl, heap_lt h3, fun j x hx => ?_⟩
  match j, hx with
  | 0, hx =>
    simp at hx; subst hx
    refine ⟨[.slice (some ⟨w.heap.size, 0, none⟩) 2 2, .int .i64 5], ⟨_, _, rfl, lab _ _ _ h1, by unfold maxLen l1; simp⟩, fun i v hv => ?_⟩
    match i, hv with
    | 0, hv => simp at hv; subst hv; exact (show (bW w).cell? ⟨w.heap.size + 2, 0, none⟩ = some _ from by unfold World.cell?; simp only [h3]; rfl)
    | 1, hv => simp at hv; subst hv; exact (show (bW w).cell? ⟨w.heap.size + 2, 1, none⟩ = some _ from by unfold World.cell?; simp only [h3]; rfl)
    | i + 2, hv => simp at hv
  | 1, hx =>
    simp at hx; subst hx
    refine ⟨[.slice (some ⟨w.heap.size + 1, 0, none⟩) 2 2, .int .i64 7], ⟨_, _, rfl, lab _ _ _ h2, by unfold maxLen l2; simp⟩, fun i v hv => ?_⟩
    match i, hv with
    | 0, hv => simp at hv; subst hv; exact (show (bW w).cell? ⟨w.heap.size + 2, 2, none⟩ = some _ from by unfold World.cell?; simp only [h3]; rfl)
    | 1, hv => simp at hv; subst hv; exact (show (bW w).cell? ⟨w.heap.size + 2, 3, none⟩ = some _ from by unfold World.cell?; simp only [h3]; rfl)
    | i + 2, hv => simp at hv
  | j + 2, hx => simp at hx
theorem names_h {W W' : World} {b : Nat} (h : W' = W.alloc (.cells #[.string ⟨#[104]⟩] 9)) (hb : b = W.heap.size) : SeesN W' (some ⟨b, 0, none⟩) nh := by
  subst h hb
  have h1 : (W.alloc (.cells #[.string ⟨#[104]⟩] 9)).heap[W.heap.size]? = some (.cells #[.string ⟨#[104]⟩] 9 (0, 0)) := Array.getElem?_push_size
  refine .inr ⟨W.heap.size, 0, rfl, heap_lt h1, fun j hj => ?_⟩
  have hj0 : j = 0 := by simp at hj; omega
  subst hj0
  exact (show (W.alloc (.cells #[.string ⟨#[104]⟩] 9)).cell? ⟨W.heap.size, 0, none⟩ = some _ from by unfold World.cell?; simp only [h1]; rfl)

set_option maxHeartbeats 8000000 in
set_option maxRecDepth 100000 in
theorem alive_any (w : World) : Calls Tryz.prog 28 #[] w fun e w' => e = .returned (.bool true) ∧ Below w.heap.size w w' := by
  obtain ⟨W0, hW0⟩ : ∃ W0, bW w = W0 := ⟨_, rfl⟩
  have HW0 := Lib.hid hW0
  have HA := Lib.hid (show Below w.heap.size w W0 from by rw [← hW0]; exact bW_below w)
  have HS := Lib.hid (show RowsS W0 0 (some ⟨w.heap.size + 2, 0, none⟩) rl from by rw [← hW0]; exact bW_rows w)
  have hsz : W0.heap.size = w.heap.size + 3 := by rw [← hW0]; simp
  have HNm := Lib.hid (fun (W : World) => names_h (W := W) (b := W.heap.size) rfl rfl)
  have one : ∀ (z : Int) (l : Labs) (s : List Rw), s.Perm [(l, z)] → s = [(l, z)] := fun z l s h => List.perm_singleton.1 h
  have H1 := Lib.hid (fun (W : World) (b : Nat) (hb : Below W0.heap.size W0 W) (hn : SeesN W (some ⟨b, 0, none⟩) nh) => (do_ok ⟨#[115, 117, 109]⟩ 0 2 (some ⟨b, 0, none⟩) (some ⟨w.heap.size + 2, 0, none⟩) 1 1 2 2 nh rl W (0, 0) agg_sum (fun g hg => by rw [split_2] at hg; simp at hg; subst hg; rw [sum_is]) rfl rfl rl_right sm_l (by decide) (by decide) 0 (Nat.zero_le _) (HS.out.below frow hb) hn).mono (fun e w' q => show (∃ b off c, e = .returned (.tuple #[.slice (some ⟨b, off, none⟩) 1 c, .int .i64 0]) ∧ ∀ W2, Below w'.heap.size w' W2 → W2.cell? ⟨b, off + 1, none⟩ = some (.int .i64 12)) ∧ Below W.heap.size W w' from by
    obtain ⟨⟨v, us, s, rfl, ho, hp, _⟩, h2⟩ := q
    have e1 : rowsOf (0, 0) (splitR 2 nh rl) = [(la1, 12)] := by rw [split_2]; simp [rowsOf, sum_is]
    rw [e1] at hp
    obtain rfl := one 12 la1 s hp
    obtain ⟨g, off, c, rfl, hc⟩ := one_row ho
    exact ⟨⟨g, off, c, rfl, hc⟩, h2⟩))
  have H2 := Lib.hid (fun (W : World) (hb : Below W0.heap.size W0 W) => (do_ok ⟨#[116, 111, 112, 107]⟩ 1 0 none (some ⟨w.heap.size + 2, 0, none⟩) 0 0 2 2 [] rl W (6, 1) agg_top (fun g hg => by rw [split_0] at hg; simp at hg; subst hg; rw [top_is]) rfl rfl rl_right sm_l (by decide) (by decide) 0 (Nat.zero_le _) (HS.out.below frow hb) (seesNil _)).mono (fun e w' q => show (∃ b off c, e = .returned (.tuple #[.slice (some ⟨b, off, none⟩) 1 c, .int .i64 0]) ∧ ∀ W2, Below w'.heap.size w' W2 → W2.cell? ⟨b, off + 1, none⟩ = some (.int .i64 7)) ∧ Below W.heap.size W w' from by
    obtain ⟨⟨v, us, s, rfl, ho, hp, _⟩, h2⟩ := q
    have e1 : rowsOf (6, 1) (splitR 0 [] rl) = [(l2, 7)] := by rw [split_0]; simp [rowsOf, top_is]
    rw [e1] at hp
    obtain rfl := one 7 l2 s hp
    obtain ⟨g, off, c, rfl, hc⟩ := one_row ho
    exact ⟨⟨g, off, c, rfl, hc⟩, h2⟩))
  have H3 := Lib.hid (fun (W : World) (b : Nat) (hb : Below W0.heap.size W0 W) (hn : SeesN W (some ⟨b, 0, none⟩) nh) => (parts_any 1 (some ⟨b, 0, none⟩) (some ⟨w.heap.size + 2, 0, none⟩) 1 1 2 2 nh rl W rfl rfl rl_right sm_l (by decide) (by decide) 0 (Nat.zero_le _) (HS.out.below frow hb) hn).mono (fun e w' q => show (∃ o c, e = .returned (.slice o 2 c)) ∧ Below W.heap.size W w' from by
    obtain ⟨⟨v, us, rfl, ho⟩, h2⟩ := q
    obtain ⟨o, c, rfl, _, _⟩ := ho.sees (firmPart (B := 0))
    exact ⟨⟨o, c, by rw [List.length_map, split_1]⟩, h2⟩))
  clear hW0 one HS
  go_enter Tryz.func28, Tryz.ntmps28
  go_wp2_with fail
  change Calls _ _ #[_, _, _, .slice (some ⟨w.heap.size + 3, 0, none⟩) 1 1, .slice (some ⟨w.heap.size + 2, 0, none⟩) 2 2] ((bW w).alloc (Obj.cells #[.string ⟨#[104]⟩] 9)) _
  rw [HW0.out, ← hsz]
  refine (H1.out _ _ ((Below.refl _ _).alloc (Nat.le_refl _) _) (HNm.out W0)).mono ?_
  rintro e w1 ⟨⟨b1, off1, c1, rfl, hc1⟩, hb1⟩
  have HB1 := Lib.hid (show Below W0.heap.size W0 w1 from ((Below.refl W0.heap.size W0).alloc (Nat.le_refl _) _).trans (hb1.mono (by simp)))
  have HC1 := Lib.hid hc1
  clear hc1 hb1
  go_wp2_with fail
  refine (H2.out _ HB1.out).mono ?_
  rintro e w2 ⟨⟨b2, off2, c2, rfl, hc2⟩, hb2⟩
  have HB2 := Lib.hid (HB1.out.trans (hb2.mono HB1.out.size))
  have d1 := HC1.out w2 hb2
  have d2 := hc2 w2 (Below.refl _ _)
  have HC2 := Lib.hid hc2
  have HNm2 := Lib.hid (HNm.out w2)
  clear hc2 hb2
  go_wp2_with fail
  refine (H3.out _ _ (HB2.out.alloc HB2.out.size _) HNm2.out).mono ?_
  rintro e w3 ⟨⟨o3, c3, rfl⟩, hb3⟩
  have HB3 := Lib.hid (show Below w.heap.size w w3 from HA.out.trans ((((HB2.out.alloc HB2.out.size (Obj.cells #[.string ⟨#[104]⟩] 9)).trans (hb3.mono (by have := HB2.out.size; simp; omega)))).mono HA.out.size))
  clear hb3
  go_wp2
  go_ret
  exact ⟨rfl, HB3.out⟩
end Go.Proofs.YtbdnonphkobkoaaGreat.Grp
