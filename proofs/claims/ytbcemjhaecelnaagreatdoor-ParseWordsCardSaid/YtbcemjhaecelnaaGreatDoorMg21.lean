import Derived.Test.YtbcemjhaecelnaaGreatDoorMg20
section
set_option maxHeartbeats 4000000
set_option maxRecDepth 100000
section
namespace Go.Proofs.YtbcemjhaecelnaaGreatDoor.Par
open Go.RowKit Go.Lib
open Go.Proofs.YtbcemjhaecelnaaGreatDoor.Sto
theorem Box7.drew {w : World} {k : Nat} {a b c d e f g : Value} (h : Box7 w k a b c d e f g) : Box7 w.drew k a b c d e f g := h
theorem zdz {w : World} {k j : Nat} {a b c d e f g : Value} (h : Box7 w j a b c d e f g) (hj : j ≠ k) (a' b' c' d' e' f' g' : Value) : Box7 (put7 w k a' b' c' d' e' f' g') j a b c d e f g := (za1 w k a' b' c' d' e' f' g' j hj).trans h
theorem grown_drew {a b : World} {r : Option Nat} (h : a.grownBy b r) : a.grownBy b.drew r := grown_trans h (grown_of_below (Below.refl _ _).drew _)
theorem closed_of (n : Nat) (hC : ChainC n) : zdg (n + 1) := by
 intro l hl w bd h
 have hfar := h.lt
 have HB := zh (zal w (.string ⟨#[]⟩) (.string ⟨#[]⟩) (.int .i64 0) (.int .i64 0) (.slice none 0 0) (.slice none 0 0) (.slice none 0 0))
 have HG := zh (grown_alloc (grown_refl w (some bd)) (Obj.cells #[.string ⟨#[]⟩, .string ⟨#[]⟩, .int .i64 0, .int .i64 0, .slice none 0 0, .slice none 0 0, .slice none 0 0] 27))
 have HE := zh (zhX n hC l (by omega) _ bd (h.alloc (Obj.cells #[.string ⟨#[]⟩, .string ⟨#[]⟩, .int .i64 0, .int .i64 0, .slice none 0 0, .slice none 0 0, .slice none 0 0] 27)))
 obtain ⟨T, hT⟩ : ∃ T, zan (n + 1) l = T := ⟨_, rfl⟩
 rw [hT]
 rw [zan] at hT
 cases hr : chainGo n 1 l with
 | none =>
   rw [hr] at hT HE
   have HT := zh (show none = T from hT)
   clear h hC hl hT hr
   go_enter Tryz.func129, Tryz.ntmps129
   go_wp2_with fail
   refine HE.out.mono ?_
   intro e w1 hres
   have HRES := zh hres
   have HB1 := zh (show Box7 w1 w.heap.size (.string ⟨#[]⟩) (.string ⟨#[]⟩) (.int .i64 0) (.int .i64 0) (.slice none 0 0) (.slice none 0 0) (.slice none 0 0) from zaa HB.out hres.wide (by omega))
   have HG1 := zh (grown_trans HG.out hres.wide)
   have hsz1 : w.heap.size < w1.heap.size := Nat.lt_of_lt_of_le (by simp) hres.wide.size
   obtain ⟨a, b, z, m, o1, k1, c1, o2, k2, c2, o3, k3, c3, rfl⟩ := hres.shape
   clear hres
   go_wp2_with fail
   obtain ⟨W, hW⟩ : ∃ W, w1.alloc (Obj.cells #[.string a, .string b, .int .i64 z, .int .i64 m, .slice o1 k1 c1, .slice o2 k2 c2, .slice o3 k3 c3] 27) = W := ⟨_, rfl⟩
   have HX := zh (show Box7 W.drew w1.heap.size (.string a) (.string b) (.int .i64 z) (.int .i64 m) (.slice o1 k1 c1) (.slice o2 k2 c2) (.slice o3 k3 c3) by rw [<- hW]; exact zal w1 (.string a) (.string b) (.int .i64 z) (.int .i64 m) (.slice o1 k1 c1) (.slice o2 k2 c2) (.slice o3 k3 c3))
   have HZ := zh (show Box7 W.drew w.heap.size (.string ⟨#[]⟩) (.string ⟨#[]⟩) (.int .i64 0) (.int .i64 0) (.slice none 0 0) (.slice none 0 0) (.slice none 0 0) by rw [<- hW]; exact (Below.heap_alloc _ _ _ hsz1).trans HB1.out)
   have HXW := zh (show Box7 W w1.heap.size (.string a) (.string b) (.int .i64 z) (.int .i64 m) (.slice o1 k1 c1) (.slice o2 k2 c2) (.slice o3 k3 c3) by rw [<- hW]; exact zal w1 (.string a) (.string b) (.int .i64 z) (.int .i64 m) (.slice o1 k1 c1) (.slice o2 k2 c2) (.slice o3 k3 c3))
   have HZW := zh (show Box7 W w.heap.size (.string ⟨#[]⟩) (.string ⟨#[]⟩) (.int .i64 0) (.int .i64 0) (.slice none 0 0) (.slice none 0 0) (.slice none 0 0) by rw [<- hW]; exact (Below.heap_alloc _ _ _ hsz1).trans HB1.out)
   have HGN := zh (show w.grownBy W (some bd) by rw [<- hW]; exact grown_alloc HG1.out _)
   have HGW := zh (show w.grownBy W.drew (some bd) by rw [<- hW]; exact grown_trans (grown_alloc HG1.out _) (grown_of_below (Below.refl _ _).drew _))
   obtain ⟨⟨q0, q1, q2, q3, q4, q5, q6⟩, f0, f1, f2, f3, f4, f5, f6⟩ := HZW.out.reads
   rw [hW]
   clear hW
   refine wp_region_held_drew (S := (fun V => Box7 V w1.heap.size (.string a) (.string b) (.int .i64 z) (.int .i64 m) (.slice o1 k1 c1) (.slice o2 k2 c2) (.slice o3 k3 c3))) (by kernel_rfl) (HX.out) (fun hHeld => ?_)
   refine wpAnyH_take (i := 0) (v := ?_) rfl (by kernel_rfl) (by kernel_rfl) (by kernel_rfl) (fun _ _ _ h => h) (Or.inl ⟨by kernel_rfl, by intro w hSw; (try dsimp only at hSw); have hx := hSw; obtain ⟨⟨s0, s1, s2, s3, s4, s5, s6⟩, _⟩ := hx.reads; go_simp; try with_reducible rfl⟩) hHeld ?_
   go_simp
   refine wpAnyH_take (i := 1) (v := ?_) rfl (by kernel_rfl) (by kernel_rfl) (by kernel_rfl) (fun _ _ _ h => h) (Or.inl ⟨by kernel_rfl, by intro w _; go_simp; try with_reducible rfl⟩) hHeld ?_
   go_simp
   refine wpAnyH_take (i := 2) (v := ?_) rfl (by kernel_rfl) (by kernel_rfl) (by kernel_rfl) (fun _ _ _ h => h) (Or.inl ⟨by kernel_rfl, by intro w _; go_simp; try with_reducible rfl⟩) hHeld ?_
   go_simp
   refine wpAnyH_take (i := 3) (v := undef) rfl (by kernel_rfl) (by kernel_rfl) (by kernel_rfl) (fun _ _ _ h => h) (Or.inr ⟨by kernel_rfl, rfl⟩) hHeld ?_
   go_simp
   refine wpAnyH_take (i := 4) (v := undef) rfl (by kernel_rfl) (by kernel_rfl) (by kernel_rfl) (fun _ _ _ h => h) (Or.inr ⟨by kernel_rfl, rfl⟩) hHeld ?_
   go_simp
   refine wpAnyH_take (i := 5) (v := ?_) rfl (by kernel_rfl) (by kernel_rfl) (by kernel_rfl) (fun _ _ _ h => h) (Or.inl ⟨by kernel_rfl, by intro w _; go_simp; try with_reducible rfl⟩) hHeld ?_
   go_simp
   refine wpAnyH_ready (rs := [6]) (by kernel_rfl) (by simp) ?_
   refine AllReadyH.cons rfl (fun K hK => ?_) AllReadyH.nil
   clear hHeld
   go_simp
   refine hK.out _ _ ?_ (fun hHeld => ?_)
   ·clear hK K
    exact Box7.drew (zdz HXW.out (Nat.ne_of_gt hsz1) _ _ _ _ _ _ _)
   clear hK K
   refine wpAnyH_take (i := 7) (v := ?_) rfl (by kernel_rfl) (by kernel_rfl) (by kernel_rfl) (fun _ _ _ h => h) (Or.inl ⟨by kernel_rfl, by intro w _; go_simp; try with_reducible rfl⟩) hHeld ?_
   go_simp
   refine wpAnyH_done (by kernel_rfl) ?_ _
   go_wp2
   refine bodyPost_ret (v := .tuple #[.agg #[.string a, .string b, .int .i64 z, .int .i64 m, .slice o1 k1 c1, .slice o2 k2 c2, .slice o3 k3 c3], .bool false]) (by simp [results, Tryz.results129, go_sem, q0, q1, q2, q3, q4, q5, q6]) rfl ?_
   rw [<- HT.out]
   exact ⟨_, rfl, raw7 _ _ _ _ _ _ _ _ _ _ _ _ _, grown_drew (zaf HGN.out (Nat.le_refl _) _ _ _ _ _ _ _)⟩
 | some p =>
   obtain ⟨x, k⟩ := p
   rw [hr] at hT HE
   dsimp only at hT
   cases hc : isT 5 [41] k with
   | false =>
     rw [if_neg (by rw [hc]; simp)] at hT
     have HT := zh hT
     have HS := zh (fun W (hr : Rd W bd k) => zbY bd k ⟨#[41]⟩ hc W hr)
     clear h hC hl hT hr hc
     go_enter Tryz.func129, Tryz.ntmps129
     go_wp2_with fail
     refine HE.out.mono ?_
     intro e w1 hres
     have HRES := zh hres
     have HB1 := zh (show Box7 w1 w.heap.size (.string ⟨#[]⟩) (.string ⟨#[]⟩) (.int .i64 0) (.int .i64 0) (.slice none 0 0) (.slice none 0 0) (.slice none 0 0) from zaa HB.out hres.wide (by omega))
     have HG1 := zh (grown_trans HG.out hres.wide)
     have hsz1 : w.heap.size < w1.heap.size := Nat.lt_of_lt_of_le (by simp) hres.wide.size
     obtain ⟨a, b, z, m, o1, k1, c1, o2, k2, c2, o3, k3, c3, rfl⟩ := hres.shape
     clear hres
     go_wp2_with fail
     obtain ⟨W, hW⟩ : ∃ W, w1.alloc (Obj.cells #[.string a, .string b, .int .i64 z, .int .i64 m, .slice o1 k1 c1, .slice o2 k2 c2, .slice o3 k3 c3] 27) = W := ⟨_, rfl⟩
     have HX := zh (show Box7 W.drew w1.heap.size (.string a) (.string b) (.int .i64 z) (.int .i64 m) (.slice o1 k1 c1) (.slice o2 k2 c2) (.slice o3 k3 c3) by rw [<- hW]; exact zal w1 (.string a) (.string b) (.int .i64 z) (.int .i64 m) (.slice o1 k1 c1) (.slice o2 k2 c2) (.slice o3 k3 c3))
     have HZ := zh (show Box7 W.drew w.heap.size (.string ⟨#[]⟩) (.string ⟨#[]⟩) (.int .i64 0) (.int .i64 0) (.slice none 0 0) (.slice none 0 0) (.slice none 0 0) by rw [<- hW]; exact (Below.heap_alloc _ _ _ hsz1).trans HB1.out)
     have HXW := zh (show Box7 W w1.heap.size (.string a) (.string b) (.int .i64 z) (.int .i64 m) (.slice o1 k1 c1) (.slice o2 k2 c2) (.slice o3 k3 c3) by rw [<- hW]; exact zal w1 (.string a) (.string b) (.int .i64 z) (.int .i64 m) (.slice o1 k1 c1) (.slice o2 k2 c2) (.slice o3 k3 c3))
     have HZW := zh (show Box7 W w.heap.size (.string ⟨#[]⟩) (.string ⟨#[]⟩) (.int .i64 0) (.int .i64 0) (.slice none 0 0) (.slice none 0 0) (.slice none 0 0) by rw [<- hW]; exact (Below.heap_alloc _ _ _ hsz1).trans HB1.out)
     have HGN := zh (show w.grownBy W (some bd) by rw [<- hW]; exact grown_alloc HG1.out _)
     have HGW := zh (show w.grownBy W.drew (some bd) by rw [<- hW]; exact grown_trans (grown_alloc HG1.out _) (grown_of_below (Below.refl _ _).drew _))
     have HSG := zh (HS.out W.drew (by rw [<- hW]; exact (HRES.out.part.2.1.alloc _).below (Below.refl _ _).drew))
     rw [hW]
     clear hW
     refine wp_region_held_drew (S := (fun V => Box7 V w1.heap.size (.string a) (.string b) (.int .i64 z) (.int .i64 m) (.slice o1 k1 c1) (.slice o2 k2 c2) (.slice o3 k3 c3))) (by kernel_rfl) (HX.out) (fun hHeld => ?_)
     refine wpAnyH_take (i := 0) (v := ?_) rfl (by kernel_rfl) (by kernel_rfl) (by kernel_rfl) (fun _ _ _ h => h) (Or.inl ⟨by kernel_rfl, by intro w hSw; (try dsimp only at hSw); have hx := hSw; obtain ⟨⟨s0, s1, s2, s3, s4, s5, s6⟩, _⟩ := hx.reads; go_simp; try with_reducible rfl⟩) hHeld ?_
     go_simp
     refine wpAnyH_take (i := 1) (v := ?_) rfl (by kernel_rfl) (by kernel_rfl) (by kernel_rfl) (fun _ _ _ h => h) (Or.inl ⟨by kernel_rfl, by intro w _; go_simp; try with_reducible rfl⟩) hHeld ?_
     go_simp
     refine wpAnyH_take (i := 2) (v := ?_) rfl (by kernel_rfl) (by kernel_rfl) (by kernel_rfl) (fun _ _ _ h => h) (Or.inl ⟨by kernel_rfl, by intro w _; go_simp; try with_reducible rfl⟩) hHeld ?_
     go_simp
     refine wpAnyH_take (i := 3) (v := ?_) rfl (by kernel_rfl) (by kernel_rfl) (by kernel_rfl) (fun _ _ _ h => h) (Or.inl ⟨by kernel_rfl, by intro w _; go_simp; try with_reducible rfl⟩) hHeld ?_
     go_simp
     refine wpAnyH_ready (rs := [4]) (by kernel_rfl) (by simp) ?_
     refine AllReadyH.cons rfl (fun K hK => ?_) AllReadyH.nil
     clear hHeld
     go_simp
     refine HSG.out.mono ?_; rintro e w3 ⟨rfl, hr3, hg3⟩; have HX3 := zh (show Box7 w3 w1.heap.size (.string a) (.string b) (.int .i64 z) (.int .i64 m) (.slice o1 k1 c1) (.slice o2 k2 c2) (.slice o3 k3 c3) from zaa HX.out hg3 (by omega)); have HZ3 := zh (show Box7 w3 w.heap.size (.string ⟨#[]⟩) (.string ⟨#[]⟩) (.int .i64 0) (.int .i64 0) (.slice none 0 0) (.slice none 0 0) (.slice none 0 0) from zaa HZ.out hg3 (by omega)); have HG3 := zh (grown_trans HGW.out hg3); have HR3 := zh hr3; have HM3 := zh (trivial); obtain ⟨⟨q0, q1, q2, q3, q4, q5, q6⟩, f0, f1, f2, f3, f4, f5, f6⟩ := HZ3.out.reads; clear hr3 hg3
     go_simp
     refine hK.out _ _ (HX3.out) (fun hHeld => ?_)
     clear hK K
     refine wpAnyH_take (i := 5) (v := ?_) rfl (by kernel_rfl) (by kernel_rfl) (by kernel_rfl) (fun _ _ _ h => h) (Or.inl ⟨by kernel_rfl, by intro w _; go_simp; try with_reducible rfl⟩) hHeld ?_
     go_simp
     refine wpAnyH_ready (rs := [6]) (by kernel_rfl) (by simp) ?_
     refine AllReadyH.cons rfl (fun K hK => ?_) AllReadyH.nil
     clear hHeld
     go_simp
     refine hK.out _ _ ?_ (fun hHeld => ?_)
     ·clear hK K
      exact zdz HX3.out (Nat.ne_of_gt hsz1) _ _ _ _ _ _ _
     clear hK K
     refine wpAnyH_take (i := 7) (v := ?_) rfl (by kernel_rfl) (by kernel_rfl) (by kernel_rfl) (fun _ _ _ h => h) (Or.inl ⟨by kernel_rfl, by intro w _; go_simp; try with_reducible rfl⟩) hHeld ?_
     go_simp
     refine wpAnyH_done (by kernel_rfl) ?_ _
     go_wp2
     refine bodyPost_ret (v := .tuple #[.agg #[.string a, .string b, .int .i64 z, .int .i64 m, .slice o1 k1 c1, .slice o2 k2 c2, .slice o3 k3 c3], .bool false]) (by simp [results, Tryz.results129, go_sem, q0, q1, q2, q3, q4, q5, q6]) rfl ?_
     rw [<- HT.out]
     exact ⟨_, rfl, raw7 _ _ _ _ _ _ _ _ _ _ _ _ _, zaf HG3.out (Nat.le_refl _) _ _ _ _ _ _ _⟩
   | true =>
     rw [if_pos hc] at hT
     have HT := zh hT
     have HS := zh (fun W (hr : Rd W bd k) => za9 bd k ⟨#[41]⟩ hc W hr)
     clear h hC hl hT hr hc
     go_enter Tryz.func129, Tryz.ntmps129
     go_wp2_with fail
     refine HE.out.mono ?_
     intro e w1 hres
     have HRES := zh hres
     have HB1 := zh (show Box7 w1 w.heap.size (.string ⟨#[]⟩) (.string ⟨#[]⟩) (.int .i64 0) (.int .i64 0) (.slice none 0 0) (.slice none 0 0) (.slice none 0 0) from zaa HB.out hres.wide (by omega))
     have HG1 := zh (grown_trans HG.out hres.wide)
     have hsz1 : w.heap.size < w1.heap.size := Nat.lt_of_lt_of_le (by simp) hres.wide.size
     obtain ⟨a, b, z, m, o1, k1, c1, o2, k2, c2, o3, k3, c3, rfl⟩ := hres.shape
     clear hres
     go_wp2_with fail
     obtain ⟨W, hW⟩ : ∃ W, w1.alloc (Obj.cells #[.string a, .string b, .int .i64 z, .int .i64 m, .slice o1 k1 c1, .slice o2 k2 c2, .slice o3 k3 c3] 27) = W := ⟨_, rfl⟩
     have HX := zh (show Box7 W.drew w1.heap.size (.string a) (.string b) (.int .i64 z) (.int .i64 m) (.slice o1 k1 c1) (.slice o2 k2 c2) (.slice o3 k3 c3) by rw [<- hW]; exact zal w1 (.string a) (.string b) (.int .i64 z) (.int .i64 m) (.slice o1 k1 c1) (.slice o2 k2 c2) (.slice o3 k3 c3))
     have HZ := zh (show Box7 W.drew w.heap.size (.string ⟨#[]⟩) (.string ⟨#[]⟩) (.int .i64 0) (.int .i64 0) (.slice none 0 0) (.slice none 0 0) (.slice none 0 0) by rw [<- hW]; exact (Below.heap_alloc _ _ _ hsz1).trans HB1.out)
     have HXW := zh (show Box7 W w1.heap.size (.string a) (.string b) (.int .i64 z) (.int .i64 m) (.slice o1 k1 c1) (.slice o2 k2 c2) (.slice o3 k3 c3) by rw [<- hW]; exact zal w1 (.string a) (.string b) (.int .i64 z) (.int .i64 m) (.slice o1 k1 c1) (.slice o2 k2 c2) (.slice o3 k3 c3))
     have HZW := zh (show Box7 W w.heap.size (.string ⟨#[]⟩) (.string ⟨#[]⟩) (.int .i64 0) (.int .i64 0) (.slice none 0 0) (.slice none 0 0) (.slice none 0 0) by rw [<- hW]; exact (Below.heap_alloc _ _ _ hsz1).trans HB1.out)
     have HGN := zh (show w.grownBy W (some bd) by rw [<- hW]; exact grown_alloc HG1.out _)
     have HGW := zh (show w.grownBy W.drew (some bd) by rw [<- hW]; exact grown_trans (grown_alloc HG1.out _) (grown_of_below (Below.refl _ _).drew _))
     have HSG := zh (HS.out W.drew (by rw [<- hW]; exact (HRES.out.part.2.1.alloc _).below (Below.refl _ _).drew))
     have HND := zh (show Nod W.drew (fun b => w.heap.size < b) [.string a, .string b, .int .i64 z, .int .i64 m, .slice o1 k1 c1, .slice o2 k2 c2, .slice o3 k3 c3] x by
      rw [<- hW]
      exact HRES.out.part.1.keep fun b hb hl => ⟨by show (w1.alloc _).heap[b]? = _; rw [Below.heap_alloc _ _ _ hl], by simp at hb; omega⟩)
     rw [hW]
     clear hW
     refine wp_region_held_drew (S := (fun V => Box7 V w1.heap.size (.string a) (.string b) (.int .i64 z) (.int .i64 m) (.slice o1 k1 c1) (.slice o2 k2 c2) (.slice o3 k3 c3))) (by kernel_rfl) (HX.out) (fun hHeld => ?_)
     refine wpAnyH_take (i := 0) (v := ?_) rfl (by kernel_rfl) (by kernel_rfl) (by kernel_rfl) (fun _ _ _ h => h) (Or.inl ⟨by kernel_rfl, by intro w hSw; (try dsimp only at hSw); have hx := hSw; obtain ⟨⟨s0, s1, s2, s3, s4, s5, s6⟩, _⟩ := hx.reads; go_simp; try with_reducible rfl⟩) hHeld ?_
     go_simp
     refine wpAnyH_take (i := 1) (v := ?_) rfl (by kernel_rfl) (by kernel_rfl) (by kernel_rfl) (fun _ _ _ h => h) (Or.inl ⟨by kernel_rfl, by intro w _; go_simp; try with_reducible rfl⟩) hHeld ?_
     go_simp
     refine wpAnyH_take (i := 2) (v := ?_) rfl (by kernel_rfl) (by kernel_rfl) (by kernel_rfl) (fun _ _ _ h => h) (Or.inl ⟨by kernel_rfl, by intro w _; go_simp; try with_reducible rfl⟩) hHeld ?_
     go_simp
     refine wpAnyH_take (i := 3) (v := ?_) rfl (by kernel_rfl) (by kernel_rfl) (by kernel_rfl) (fun _ _ _ h => h) (Or.inl ⟨by kernel_rfl, by intro w _; go_simp; try with_reducible rfl⟩) hHeld ?_
     go_simp
     refine wpAnyH_ready (rs := [4]) (by kernel_rfl) (by simp) ?_
     refine AllReadyH.cons rfl (fun K hK => ?_) AllReadyH.nil
     clear hHeld
     go_simp
     refine HSG.out.mono ?_; rintro e w3 ⟨rfl, hr3, hg3⟩; have HX3 := zh (show Box7 w3 w1.heap.size (.string a) (.string b) (.int .i64 z) (.int .i64 m) (.slice o1 k1 c1) (.slice o2 k2 c2) (.slice o3 k3 c3) from zaa HX.out hg3 (by omega)); have HZ3 := zh (show Box7 w3 w.heap.size (.string ⟨#[]⟩) (.string ⟨#[]⟩) (.int .i64 0) (.int .i64 0) (.slice none 0 0) (.slice none 0 0) (.slice none 0 0) from zaa HZ.out hg3 (by omega)); have HG3 := zh (grown_trans HGW.out hg3); have HR3 := zh hr3; have HM3 := zh (HND.out.grown hg3 (fun b hb => by omega)); obtain ⟨⟨q0, q1, q2, q3, q4, q5, q6⟩, f0, f1, f2, f3, f4, f5, f6⟩ := HZ3.out.reads; clear hr3 hg3
     go_simp
     refine hK.out _ _ (HX3.out) (fun hHeld => ?_)
     clear hK K
     refine wpAnyH_take (i := 5) (v := ?_) rfl (by kernel_rfl) (by kernel_rfl) (by kernel_rfl) (fun _ _ _ h => h) (Or.inl ⟨by kernel_rfl, by intro w _; go_simp; try with_reducible rfl⟩) hHeld ?_
     go_simp
     refine wpAnyH_ready (rs := [6]) (by kernel_rfl) (by simp) ?_
     refine AllReadyH.cons rfl (fun K hK => ?_) AllReadyH.nil
     clear hHeld
     go_simp
     refine hK.out _ _ ?_ (fun hHeld => ?_)
     ·clear hK K
      exact zdz HX3.out (Nat.ne_of_gt hsz1) _ _ _ _ _ _ _
     clear hK K
     refine wpAnyH_take (i := 7) (v := ?_) rfl (by kernel_rfl) (by kernel_rfl) (by kernel_rfl) (fun _ _ _ h => h) (Or.inl ⟨by kernel_rfl, by intro w _; go_simp; try with_reducible rfl⟩) hHeld ?_
     go_simp
     refine wpAnyH_done (by kernel_rfl) ?_ _
     go_wp2
     refine bodyPost_ret (v := .tuple #[.agg #[.string a, .string b, .int .i64 z, .int .i64 m, .slice o1 k1 c1, .slice o2 k2 c2, .slice o3 k3 c3], .bool true]) (by simp [results, Tryz.results129, go_sem, q0, q1, q2, q3, q4, q5, q6]) rfl ?_
     rw [<- HT.out]
     exact ⟨_, rfl, zba HM3.out (fun b hb => ⟨by omega, by omega⟩) _ _ _ _ _ _ _, zcs HR3.out hfar _ _ _ _ _ _ _, zaf HG3.out (Nat.le_refl _) _ _ _ _ _ _ _⟩
end Go.Proofs.YtbcemjhaecelnaaGreatDoor.Par
end
section
namespace Go.Proofs.YtbcemjhaecelnaaGreatDoor.Par
open Go.RowKit Go.Lib
open Go.Proofs.YtbcemjhaecelnaaGreatDoor.Sto
theorem row_two {w : World} {B : Nat} {la lb : ByteArray} {lz lm : Int} {lo1 : Option Addr} {lk1 lc1 : Nat} {lo2 : Option Addr} {lk2 lc2 : Nat} {lo3 : Option Addr} {lk3 lc3 : Nat} {a b : ByteArray} {z m : Int} {o1 : Option Addr} {k1 c1 : Nat} {o2 : Option Addr} {k2 c2 : Nat} {o3 : Option Addr} {k3 c3 : Nat} (hB : B <= w.heap.size) :
 za2 (w.alloc (Obj.cells #[.string la, .string lb, .int .i64 lz, .int .i64 lm, .slice lo1 lk1 lc1, .slice lo2 lk2 lc2, .slice lo3 lk3 lc3, .string a, .string b, .int .i64 z, .int .i64 m, .slice o1 k1 c1, .slice o2 k2 c2, .slice o3 k3 c3] 27)) (fun b => B <= b) (some ⟨w.heap.size, 0, none⟩) 7 [[.string la, .string lb, .int .i64 lz, .int .i64 lm, .slice lo1 lk1 lc1, .slice lo2 lk2 lc2, .slice lo3 lk3 lc3], [.string a, .string b, .int .i64 z, .int .i64 m, .slice o1 k1 c1, .slice o2 k2 c2, .slice o3 k3 c3]] := by
 refine .inr ⟨_, _, rfl, hB, by simp, fun j cs hj i v hv => ?_⟩
 have hb : (w.alloc (Obj.cells #[.string la, .string lb, .int .i64 lz, .int .i64 lm, .slice lo1 lk1 lc1, .slice lo2 lk2 lc2, .slice lo3 lk3 lc3, .string a, .string b, .int .i64 z, .int .i64 m, .slice o1 k1 c1, .slice o2 k2 c2, .slice o3 k3 c3] 27)).heap[w.heap.size]? = some (Obj.cells #[.string la, .string lb, .int .i64 lz, .int .i64 lm, .slice lo1 lk1 lc1, .slice lo2 lk2 lc2, .slice lo3 lk3 lc3, .string a, .string b, .int .i64 z, .int .i64 m, .slice o1 k1 c1, .slice o2 k2 c2, .slice o3 k3 c3] 27) := Array.getElem?_push_size
 generalize w.alloc _ = W at hb ⊢
 generalize w.heap.size = k at hb ⊢
 match j, hj with
 | 0, hj =>
   simp at hj; subst hj
   match i, hv with
   | 0, hv => simp at hv; subst hv; simp [World.cell?, hb]
   | 1, hv => simp at hv; subst hv; simp [World.cell?, hb]
   | 2, hv => simp at hv; subst hv; simp [World.cell?, hb]
   | 3, hv => simp at hv; subst hv; simp [World.cell?, hb]
   | 4, hv => simp at hv; subst hv; simp [World.cell?, hb]
   | 5, hv => simp at hv; subst hv; simp [World.cell?, hb]
   | 6, hv => simp at hv; subst hv; simp [World.cell?, hb]
   | i + 7, hv => simp at hv
 | 1, hj =>
   simp at hj; subst hj
   match i, hv with
   | 0, hv => simp at hv; subst hv; simp [World.cell?, hb]
   | 1, hv => simp at hv; subst hv; simp [World.cell?, hb]
   | 2, hv => simp at hv; subst hv; simp [World.cell?, hb]
   | 3, hv => simp at hv; subst hv; simp [World.cell?, hb]
   | 4, hv => simp at hv; subst hv; simp [World.cell?, hb]
   | 5, hv => simp at hv; subst hv; simp [World.cell?, hb]
   | 6, hv => simp at hv; subst hv; simp [World.cell?, hb]
   | i + 7, hv => simp at hv
 | j + 2, hj => simp at hj
theorem two_kid {w w1 w2 : World} {bd rb : Nat} {Q QL : Nat -> Prop} {r : Option (Ex × List Tq)} {ok : Bool} {la lb : ByteArray} {lz lm : Int} {lo1 : Option Addr} {lk1 lc1 : Nat} {lo2 : Option Addr} {lk2 lc2 : Nat} {lo3 : Option Addr} {lk3 lc3 : Nat} {a b : ByteArray} {z m : Int} {o1 : Option Addr} {k1 c1 : Nat} {o2 : Option Addr} {k2 c2 : Nat} {o3 : Option Addr} {k3 c3 : Nat} {xl : Ex}
 (h : Res w1 bd r (.returned (.tuple #[.agg #[.string a, .string b, .int .i64 z, .int .i64 m, .slice o1 k1 c1, .slice o2 k2 c2, .slice o3 k3 c3], .bool ok])) w2) (hg : w.grownBy w1 (some bd)) (hrb : w.heap.size <= rb) (hlt : rb < w1.heap.size) (hbd : bd < rb)
 (hL : Nod w2 QL [.string la, .string lb, .int .i64 lz, .int .i64 lm, .slice lo1 lk1 lc1, .slice lo2 lk2 lc2, .slice lo3 lk3 lc3] xl) (hQL : ∀ b, QL b -> b ≠ rb /\ (Q b \/ w.heap.size <= b))
 (op : ByteArray) (mode : Nat) (names : List ByteArray) (on : Option Addr) (kn cn : Nat) (hkn : names.length = kn /\ kn <= cn) (hs : za2 w2 (fun b => rb < b) on 1 (names.map encN)) (A0 A1 A2 A3 A4 A5 A6 : Value) :
 ResQ w bd Q (r.map fun p => (.bin op mode names xl p.1, p.2)) (.returned (.tuple #[.agg #[.string ⟨#[98, 105, 110]⟩, .string op, .int .i64 0, .int .i64 (mode : Nat), .slice on kn cn, .slice none 0 0, .slice (some ⟨w2.heap.size + 1, 0, none⟩) 2 2], .bool r.isSome]))
  (((put7 w2 rb A0 A1 A2 A3 A4 A5 A6).alloc (Obj.cells #[.string a, .string b, .int .i64 z, .int .i64 m, .slice o1 k1 c1, .slice o2 k2 c2, .slice o3 k3 c3] 27)).alloc (Obj.cells #[.string la, .string lb, .int .i64 lz, .int .i64 lm, .slice lo1 lk1 lc1, .slice lo2 lk2 lc2, .slice lo3 lk3 lc3, .string a, .string b, .int .i64 z, .int .i64 m, .slice o1 k1 c1, .slice o2 k2 c2, .slice o3 k3 c3] 27)) := by
 have hw : w.grownBy w2 (some bd) := grown_trans hg h.wide
 have hw3 := zaf hw hrb A0 A1 A2 A3 A4 A5 A6
 have hsz := zcE w2 rb A0 A1 A2 A3 A4 A5 A6
 have hw4 := grown_alloc (grown_alloc hw3 (Obj.cells #[.string a, .string b, .int .i64 z, .int .i64 m, .slice o1 k1 c1, .slice o2 k2 c2, .slice o3 k3 c3] 27)) (Obj.cells #[.string la, .string lb, .int .i64 lz, .int .i64 lm, .slice lo1 lk1 lc1, .slice lo2 lk2 lc2, .slice lo3 lk3 lc3, .string a, .string b, .int .i64 z, .int .i64 m, .slice o1 k1 c1, .slice o2 k2 c2, .slice o3 k3 c3] 27)
 cases r with
 | none => exact ⟨_, rfl, raw7 _ _ _ _ _ _ _ _ _ _ _ _ _, hw4⟩
 | some p =>
   obtain ⟨x, l⟩ := p
   obtain ⟨h1, h2, _⟩ := h.part
   obtain ⟨V, hV⟩ : ∃ V, V = put7 w2 rb A0 A1 A2 A3 A4 A5 A6 := ⟨_, rfl⟩
   have h3 : Nod V (fun b => w.heap.size <= b) [.string a, .string b, .int .i64 z, .int .i64 m, .slice o1 k1 c1, .slice o2 k2 c2, .slice o3 k3 c3] x := by
    rw [hV]; exact zba (k := rb) (Q := fun b => w.heap.size <= b) h1 (fun b hb => ⟨by omega, by omega⟩) A0 A1 A2 A3 A4 A5 A6
   have h4 : Nod V (fun b => Q b \/ w.heap.size <= b) [.string la, .string lb, .int .i64 lz, .int .i64 lm, .slice lo1 lk1 lc1, .slice lo2 lk2 lc2, .slice lo3 lk3 lc3] xl := by
    rw [hV]; exact zba (k := rb) hL (fun b hb => hQL b hb) A0 A1 A2 A3 A4 A5 A6
   have hs3 : za2 V (fun b => w.heap.size <= b) on 1 (names.map encN) := by
    rw [hV]; exact hs.keep fun b hb _ => ⟨za1 w2 rb A0 A1 A2 A3 A4 A5 A6 b (Nat.ne_of_gt hb), by omega⟩
   have hr2 : Rd V bd l := by rw [hV]; exact zcs h2 hbd _ _ _ _ _ _ _
   rw [<- hV] at hsz hw4 ⊢
   have hVs : w.heap.size <= V.heap.size := by rw [hsz]; exact hw.size
   clear hV h hw3
   have e : (V.alloc (Obj.cells #[.string a, .string b, .int .i64 z, .int .i64 m, .slice o1 k1 c1, .slice o2 k2 c2, .slice o3 k3 c3] 27)).heap.size = V.heap.size + 1 := World.size_alloc _ _
   have g1 := row_two (w := V.alloc (Obj.cells #[.string a, .string b, .int .i64 z, .int .i64 m, .slice o1 k1 c1, .slice o2 k2 c2, .slice o3 k3 c3] 27)) (B := w.heap.size) (la := la) (lb := lb) (lz := lz) (lm := lm) (lo1 := lo1) (lk1 := lk1) (lc1 := lc1) (lo2 := lo2) (lk2 := lk2) (lc2 := lc2) (lo3 := lo3) (lk3 := lk3) (lc3 := lc3) (a := a) (b := b) (z := z) (m := m) (o1 := o1) (k1 := k1) (c1 := c1) (o2 := o2) (k2 := k2) (c2 := c2) (o3 := o3) (k3 := k3) (c3 := c3) (by omega)
   rw [e, hsz] at g1
   have kp : ∀ q, q < V.heap.size -> ((V.alloc (Obj.cells #[.string a, .string b, .int .i64 z, .int .i64 m, .slice o1 k1 c1, .slice o2 k2 c2, .slice o3 k3 c3] 27)).alloc (Obj.cells #[.string la, .string lb, .int .i64 lz, .int .i64 lm, .slice lo1 lk1 lc1, .slice lo2 lk2 lc2, .slice lo3 lk3 lc3, .string a, .string b, .int .i64 z, .int .i64 m, .slice o1 k1 c1, .slice o2 k2 c2, .slice o3 k3 c3] 27)).heap[q]? = V.heap[q]? := fun q hl => by
    rw [Below.heap_alloc _ _ _ (by rw [e]; omega), Below.heap_alloc _ _ _ hl]
   refine ⟨_, rfl, ?_, (hr2.alloc _).alloc _, hw4⟩
   exact Nod.mk (.bin op mode names xl x) 0 (mode : Nat) on none (some ⟨w2.heap.size + 1, 0, none⟩) kn cn 0 0 2 2 [[.string la, .string lb, .int .i64 lz, .int .i64 lm, .slice lo1 lk1 lc1, .slice lo2 lk2 lc2, .slice lo3 lk3 lc3], [.string a, .string b, .int .i64 z, .int .i64 m, .slice o1 k1 c1, .slice o2 k2 c2, .slice o3 k3 c3]] rfl rfl hkn rfl rfl rfl
    (hs3.keep fun b hb hl => ⟨kp b hl, .inr hb⟩) (.inl rfl) (g1.keep fun b hb _ => ⟨rfl, .inr hb⟩)
    (fun j cs y hj hy => by
     match j, hj, hy with
     | 0, hj, hy => simp [zaO] at hj hy; subst hj; subst hy; exact h4.keep fun b hb hl => ⟨kp b hl, hb⟩
     | 1, hj, hy => simp [zaO] at hj hy; subst hj; subst hy; exact h3.keep fun b hb hl => ⟨kp b hl, .inr hb⟩
     | j + 2, hj, hy => simp at hj)
theorem bin_of (n : Nat) (hC : ChainC n) : BinC (n + 1) := by
 intro t x l ht1 ht3 hlv hl w bd Q la lb lz lm lo1 lk1 lc1 lo2 lk2 lc2 lo3 lk3 lc3 h hQ hL
 have hfar := h.lt
 obtain ⟨s, l1, rfl, hs5⟩ : ∃ s l1, l = s :: l1 /\ s.1 = 5 := by
  cases l with
  | nil => simp [levelT] at hlv; omega
  | cons s l1 =>
    refine ⟨s, l1, rfl, ?_⟩
    refine Classical.byContradiction fun hne => ?_
    have : levelT (s :: l1) = 0 := by show (if s.1 = 5 then _ else _) = _; rw [if_neg hne]
    omega
 obtain ⟨op, hop⟩ : ∃ op, bz s.2 = op := ⟨_, rfl⟩
 obtain ⟨T, hT⟩ : ∃ T, zbP (n + 1) t x (s :: l1) = T := ⟨_, rfl⟩
 rw [hT]
 rw [zbP, hop] at hT
 have e1 : (w.alloc (Obj.cells #[.string la, .string lb, .int .i64 lz, .int .i64 lm, .slice lo1 lk1 lc1, .slice lo2 lk2 lc2, .slice lo3 lk3 lc3] 27)).heap.size = w.heap.size + 1 := World.size_alloc _ _
 have HBL := zh (zal w (.string la) (.string lb) (.int .i64 lz) (.int .i64 lm) (.slice lo1 lk1 lc1) (.slice lo2 lk2 lc2) (.slice lo3 lk3 lc3))
 have HBR := zh (zal (w.alloc (Obj.cells #[.string la, .string lb, .int .i64 lz, .int .i64 lm, .slice lo1 lk1 lc1, .slice lo2 lk2 lc2, .slice lo3 lk3 lc3] 27)) (.string ⟨#[]⟩) (.string ⟨#[]⟩) (.int .i64 0) (.int .i64 0) (.slice none 0 0) (.slice none 0 0) (.slice none 0 0))
 have HG := zh (grown_alloc (grown_alloc (grown_refl w (some bd)) (Obj.cells #[.string la, .string lb, .int .i64 lz, .int .i64 lm, .slice lo1 lk1 lc1, .slice lo2 lk2 lc2, .slice lo3 lk3 lc3] 27)) (Obj.cells #[.string ⟨#[]⟩, .string ⟨#[]⟩, .int .i64 0, .int .i64 0, .slice none 0 0, .slice none 0 0, .slice none 0 0] 27))
 have HTX := zh (zef bd s l1 5 hs5 _ ((h.alloc (Obj.cells #[.string la, .string lb, .int .i64 lz, .int .i64 lm, .slice lo1 lk1 lc1, .slice lo2 lk2 lc2, .slice lo3 lk3 lc3] 27)).alloc (Obj.cells #[.string ⟨#[]⟩, .string ⟨#[]⟩, .int .i64 0, .int .i64 0, .slice none 0 0, .slice none 0 0, .slice none 0 0] 27)))
 have HLF := zh (And.intro hL hQ)
 rw [show (⟨s.2.toArray⟩ : ByteArray) = op from hop] at HTX
 rw [e1] at HBR
 have HM := zh (fun W (hr : Rd W bd l1) => zeh bd l1 ⟨#[111, 110]⟩ ⟨#[105, 103, 110, 111, 114, 105, 110, 103]⟩ W hr)
 rw [show (⟨#[111, 110]⟩ : ByteArray).data.toList = wOn from rfl, show (⟨#[105, 103, 110, 111, 114, 105, 110, 103]⟩ : ByteArray).data.toList = wIgn from rfl] at HM
 cases hm : zbu wOn wIgn l1 with
 | none =>
   rw [hm] at hT HM
   have HT := zh (show none = T from hT)
   clear h hC hl hT hm hL hQ hlv hop hs5
   go_enter Tryz.func91, Tryz.ntmps91
   go_wp2_with fail
   refine HTX.out.mono ?_
   rintro e w1 ⟨rfl, hr1, hg1⟩
   have HB1 := zh (zaa HBR.out hg1 (by omega))
   have HG1 := zh (grown_trans HG.out hg1)
   have HMM := zh (HM.out w1 hr1)
   clear hr1 hg1
   go_wp2_with fail
   refine HMM.out.mono ?_
   rintro e w2 ⟨⟨zm, on, kn, cn, rfl⟩, hg2⟩
   have HB2 := zh (show Box7 w2 (w.heap.size + 1) (.string ⟨#[]⟩) (.string ⟨#[]⟩) (.int .i64 0) (.int .i64 0) (.slice none 0 0) (.slice none 0 0) (.slice none 0 0) from zaa HB1.out hg2 (by omega))
   have HG2 := zh (grown_trans HG1.out hg2)
   clear hg2
   obtain ⟨⟨q0, q1, q2, q3, q4, q5, q6⟩, f0, f1, f2, f3, f4, f5, f6⟩ := HB2.out.reads
   go_wp2
   refine bodyPost_ret (v := .tuple #[.agg #[.string ⟨#[]⟩, .string ⟨#[]⟩, .int .i64 0, .int .i64 0, .slice none 0 0, .slice none 0 0, .slice none 0 0], .bool false]) (by simp [results, Tryz.results91, go_sem, q0, q1, q2, q3, q4, q5, q6]) rfl ?_
   rw [<- HT.out]
   exact ⟨_, rfl, zbX, zaf HG2.out (Nat.le_succ _) _ _ _ _ _ _ _⟩
 | some p =>
   obtain ⟨⟨mode, names⟩, mm⟩ := p
   have hml := zbW hm
   rw [hm] at hT HM
   dsimp only at hT
   have HCC := zh (hC (t + 1) mm (by omega) (by omega) (by simp at hl; omega))
   have jt : IntKind.i64.wrap ((t : Int) + 1) = ((t + 1 : Nat) : Int) := by rw [IntWalk.i64_in _ (by omega)]; omega
   have HTT := zh hT
   generalize chainGo n (t + 1) mm = r at HCC HTT
   have i3 : (t : Int) <= 3 := by omega
   obtain ⟨t1, ht1'⟩ : ∃ t1, t + 1 = t1 := ⟨_, rfl⟩
   rw [ht1'] at jt HCC
   clear h hC hl hT hm hL hQ hlv hop hs5 hml
   go_enter Tryz.func91, Tryz.ntmps91
   go_wp2_with fail
   refine HTX.out.mono ?_
   rintro e w1 ⟨rfl, hr1, hg1⟩
   have HB1 := zh (zaa HBR.out hg1 (by omega))
   have HL1 := zh (zaa (show ((w.alloc (Obj.cells #[.string la, .string lb, .int .i64 lz, .int .i64 lm, .slice lo1 lk1 lc1, .slice lo2 lk2 lc2, .slice lo3 lk3 lc3] 27)).alloc (Obj.cells #[.string ⟨#[]⟩, .string ⟨#[]⟩, .int .i64 0, .int .i64 0, .slice none 0 0, .slice none 0 0, .slice none 0 0] 27)).heap[w.heap.size]? = some (Obj.cells #[.string la, .string lb, .int .i64 lz, .int .i64 lm, .slice lo1 lk1 lc1, .slice lo2 lk2 lc2, .slice lo3 lk3 lc3] 27 (0, 0)) from (Below.heap_alloc _ _ _ (by rw [e1]; omega)).trans HBL.out) hg1 (by omega))
   have HG1 := zh (grown_trans HG.out hg1)
   have hsz1 : w.heap.size + 1 < w1.heap.size := Nat.lt_of_lt_of_le (by simp) hg1.size
   have HMM := zh (HM.out w1 hr1)
   clear hr1 hg1
   go_wp2_with fail
   refine HMM.out.mono ?_
   rintro e w2 ⟨⟨on, kn, cn, rfl, hkn, hsn⟩, hr2, hg2⟩
   have HB2 := zh (zaa HB1.out hg2 (by omega))
   have HL2 := zh (zaa HL1.out hg2 (by omega))
   have HG2 := zh (grown_trans HG1.out hg2)
   have HS2 := zh (hsn.keep (w' := w2) (Q := fun b => w.heap.size + 1 < b) (fun b hb _ => ⟨rfl, by omega⟩))
   have HKN := zh hkn
   have hsz2 : w.heap.size + 1 < w2.heap.size := Nat.lt_of_lt_of_le hsz1 hg2.size
   have HCW := zh (HCC.out w2 bd hr2)
   clear hg2 hr2 hkn hsn
   go_wp2_with fail
   refine HCW.out.mono ?_
   intro e w3 hres
   have HRES := zh hres
   have HB3 := zh (show Box7 w3 (w.heap.size + 1) (.string ⟨#[]⟩) (.string ⟨#[]⟩) (.int .i64 0) (.int .i64 0) (.slice none 0 0) (.slice none 0 0) (.slice none 0 0) from zaa HB2.out hres.wide (by omega))
   have HL3 := zh (show Box7 w3 w.heap.size (.string la) (.string lb) (.int .i64 lz) (.int .i64 lm) (.slice lo1 lk1 lc1) (.slice lo2 lk2 lc2) (.slice lo3 lk3 lc3) from zaa HL2.out hres.wide (by omega))
   have HS3 := zh (HS2.out.grown hres.wide (fun b hb => by omega))
   have HND := zh (show Nod w3 (fun b => Q b /\ b < w.heap.size) [.string la, .string lb, .int .i64 lz, .int .i64 lm, .slice lo1 lk1 lc1, .slice lo2 lk2 lc2, .slice lo3 lk3 lc3] x from HLF.out.1.keep fun b hb hl => ⟨((grown_trans HG2.out hres.wide).block b hl (by simpa using HLF.out.2 b hb)), hb, hl⟩)
   have hsz3 := hres.wide.size
   obtain ⟨a, b, z, m, o1, k1, c1, o2, k2, c2, o3, k3, c3, rfl⟩ := hres.shape
   clear hres
   obtain ⟨⟨q0, q1, q2, q3, q4, q5, q6⟩, f0, f1, f2, f3, f4, f5, f6⟩ := HB3.out.reads
   obtain ⟨⟨p0, p1, p2, p3, p4, p5, p6⟩, _⟩ := HL3.out.reads
   have hrb : w.heap.size + 1 < w3.heap.size := by omega
   have hlb : w.heap.size < w3.heap.size := by omega
   go_wp2
   refine bodyPost_ret (v := .tuple #[.agg #[.string ⟨#[98, 105, 110]⟩, .string op, .int .i64 0, .int .i64 (mode : Nat), .slice on kn cn, .slice none 0 0, .slice (some ⟨w3.heap.size + 1, 0, none⟩) 2 2], .bool r.isSome]) (by simp [results, Tryz.results91, go_sem, q0, q1, q2, q3, q4, q5, q6, hrb, hlb]) rfl ?_
   rw [show T = r.map fun p => (.bin op mode names x p.1, p.2) by rw [<- HTT.out]; cases r <;> rfl]
   exact two_kid HRES.out HG2.out (Nat.le_succ _) hsz2 (by omega) HND.out (fun b hb => ⟨by omega, .inl hb.1⟩) op mode names on kn cn HKN.out HS3.out _ _ _ _ _ _ _
end Go.Proofs.YtbcemjhaecelnaaGreatDoor.Par
end
end
