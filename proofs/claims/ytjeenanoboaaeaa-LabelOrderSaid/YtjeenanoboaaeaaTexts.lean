/- The walk of the statement on the texts of labels. -/
import Derived.Test.YtjeenanoboaaeaaLm
import Derived.Laws.AppendOwnNone
namespace Go.Proofs.Ytjeenanoboaaeaa
open Go.RowKit

/-- An append onto a row of the call's own; what is appended may be nil. -/
theorem wpList_append_src {P : Program} {w : World} {ops : Array Oper} {rest : List Oper} {o : Oper} {a : Act} {Q : Exit → Act → World → Prop} (hgd : o.guard = none) (s x : Operand) (t : TypeId)
    (ho : o.op = .call { callee := .builtin .append, args := #[s, x], argTypes := #[t, t] })
    (base : Nat) (e : TypeId) (i : TypeInfo) (z : Value) (size bytes : Nat) (ht : P.underlying t = some (.slice e)) (hi : P.info? e = some i) (hz : i.zero = some z)
    (hsize : i.size = size) (hby : i.bytes = bytes) (hzs : z.cells.size = size) (hsz : 0 < size)
    (v : Value) (n : Nat) (xs : List Value) (hs : a.eval s = v) (hown : w.ownsRow base e size v n xs)
    (A : Option Addr) (m c : Nat) (news : List Value) (hx : a.eval x = .slice A m c) (hl : news.length = m * size)
    (hsrc : (A = none ∧ m = 0 ∧ c = 0) ∨ ∃ ad, A = some ad ∧ ∀ j u, news[j]? = some u → w.cell? (ad.add j) = some u) (h1 : ∀ u ∈ news, u.oneCell' = true)
    (h63 : n + m ≤ maxLen) (hbytes : (n + m) * bytes ≤ 140737488355328) (hbase : base ≤ w.heap.size)
    (h : ∀ v' w', w'.ownsRow base e size v' (n + m) (xs ++ news) → w.grownBy w' v.ownBlock → wpList P ops Q rest (a.put o.dst v') w') : wpList P ops Q (o :: rest) a w := by
  rcases hsrc with ⟨rfl, rfl, rfl⟩ | ⟨ad, rfl, hnews⟩
  · have hn : news = [] := List.eq_nil_of_length_eq_zero (by omega)
    subst hn
    exact wpList_append_own_none hgd s x t ho base e i size ht hi v n xs hs hown hx (h v w (by simpa using hown) (World.grownBy.refl w _))
  · exact wpList_append_own w hgd s x t ho base e i z size bytes ht hi hz hsize hby hzs hsz v n xs hs hown ad m c news hx hl hnews h1 h63 hbytes hbase fun v' w' h2 h3 _ => h v' w' h2 h3
theorem flat_cells (xs : List Lab) : ∀ u ∈ flatL xs, u.oneCell' = true := by
  intro u hu
  obtain ⟨x, _, hx⟩ := List.mem_flatMap.1 hu
  simp at hx
  rcases hx with rfl | rfl <;> rfl
/-- A row of the call's own, as a source. -/
theorem own_src {w : World} {B : Nat} {v : Value} {xs : List Lab} (h : w.ownsRow B 38 2 v xs.length (flatL xs)) :
    ∃ A c, v = .slice A xs.length c ∧ ∀ W, Below w.heap.size w W → ((A = none ∧ xs.length = 0 ∧ c = 0) ∨ ∃ ad, A = some ad ∧ ∀ j u, (flatL xs)[j]? = some u → W.cell? (ad.add j) = some u) := by
  have h9 := h
  rcases h9.2 with ⟨rfl, hz⟩ | ⟨g, cap, cur, rfl, hg, hh, hn, hcap, hsz, htake⟩
  · refine ⟨none, 0, by rw [hz], fun _ _ => .inl ⟨rfl, hz, rfl⟩⟩
  · refine ⟨_, cap, rfl, fun W hb => .inr ⟨_, rfl, fun j u hj => ?_⟩⟩
    have hlt := (Array.getElem?_eq_some_iff.1 hh).1
    have hb1 : ((⟨g, 0, none⟩ : Addr).add j).block < w.heap.size := by unfold Addr.add; split <;> exact hlt
    rw [hb.cell hb1]
    exact h.cells (g := g) rfl j u hj
theorem split_perm (ns : List ByteArray) (xs : List Lab) : (xs.filter (inB ns) ++ xs.filter (outB ns)).Perm xs := by
  have e : (fun x => !inB ns x) = outB ns := rfl
  have := List.filter_append_perm (inB ns) xs
  rwa [e] at this
theorem flatL_app (xs ys : List Lab) : flatL (xs ++ ys) = flatL xs ++ flatL ys := by simp [flatL]
theorem tidy_perm {xs T : List Lab} (hp : xs.Perm T) (hT : rightB T = true) : tidyB xs = true ∧ sortL xs = T := by
  have h := sorted_right (s := T) (xs := xs) hp.symm (right_sorted hT)
  exact ⟨by rw [← h.2]; exact hT, (h.1 hT).symm⟩
/-- Tidy, of labels that are tidy but for their order. -/
theorem tidy_of (o : Option Addr) (cap n : Nat) (xs T : List Lab) (W : World) (h1 : xs.length = n) (h2 : n ≤ 1000) (hp : xs.Perm T) (hT : rightB T = true) (hS : SeesO W o xs) (hv : ∀ x ∈ xs, x.1.size ≤ 200 ∧ x.2.size ≤ 200) :
    Calls Try.prog 9 #[.slice o n cap] W fun e w' => (∃ ot ct, e = .returned (.tuple #[.slice ot n ct, .int .i64 0]) ∧ SeesO w' ot T) ∧ Below W.heap.size W w' := by
  have h := tidy_any o cap xs W (by omega) hS (small_sizes hv)
  rw [h1] at h
  refine h.mono ?_
  rintro e w' ⟨ht, hb⟩
  obtain ⟨e1, e2⟩ := tidy_perm hp hT
  rcases ht with ⟨_, v, rfl, ho⟩ | ⟨hf, _⟩
  · rw [e2] at ho
    obtain ⟨ot, ct, rfl, hs, _⟩ := own_sees ho
    rw [← hp.length_eq, h1]
    exact ⟨⟨ot, ct, rfl, hs⟩, hb⟩
  · rw [e1] at hf; cases hf
/-- SameLabels, of lists that are read. -/
theorem sameLabels_sees (o1 o2 : Option Addr) (c1 c2 n m : Nat) (xs ys : List Lab) (W : World) (h1 : xs.length = n) (h2 : ys.length = m) (h3 : n ≤ 1000) (h4 : m ≤ 1000) (h5 : SeesO W o1 xs) (h6 : SeesO W o2 ys) :
    Calls Try.prog 10 #[.slice o1 n c1, .slice o2 m c2] W fun e w' => e = .returned (.bool (sameL xs ys)) ∧ Below W.heap.size W w' := by
  have h := sameLabels_any o1 o2 c1 c2 xs ys W (by unfold maxLen; omega) (by unfold maxLen; omega) h5 h6
  rwa [h1, h2] at h

set_option maxHeartbeats 16000000 in
set_option maxRecDepth 100000 in
theorem texts_any (oa ob on : Option Addr) (ca cb cn : Nat) (ax bx : List Lab) (ns : List ByteArray) (w : World) (ha : ax.length ≤ maxLen) (hb : bx.length ≤ maxLen) (hn : ns.length ≤ maxLen) (hSa : SeesO w oa ax) (hSb : SeesO w ob bx) (hSn : SeesN w on ns) :
    Calls Try.prog 4 #[.slice oa ax.length ca, .slice ob bx.length cb, .slice on ns.length cn] w fun e w' => e = .returned (.bool true) ∧ Below w.heap.size w w' := by
  obtain ⟨i0, hi, hz0, hz1, hz2⟩ := info_parts info38
  have HAL := Lib.hid (fun W => alive_any W)
  have HLA := Lib.hid (fun W (h : Below w.heap.size w W) => light_any oa ca ax W ha (hSa.below h))
  have HLB := Lib.hid (fun W (h : Below w.heap.size w W) => light_any ob cb bx W hb (hSb.below h))
  obtain ⟨na, hna⟩ : ∃ n, ax.length = n := ⟨_, rfl⟩
  obtain ⟨nb, hnb⟩ : ∃ n, bx.length = n := ⟨_, rfl⟩
  obtain ⟨m, hm⟩ : ∃ n, ns.length = n := ⟨_, rfl⟩
  have HNA := Lib.hid hna
  have HNB := Lib.hid hnb
  have HM := Lib.hid hm
  rw [hna] at HLA ⊢
  rw [hnb] at HLB ⊢
  rw [hm] at hn ⊢
  clear hna hnb hm ha hb
  unfold maxLen at hn
  have HS0 := Lib.hid (And.intro hSa (And.intro hSb hSn))
  clear hSa hSb hSn
  cases hla : lightB ax with
  | false =>
    rw [hla] at HLA
    clear hla
    go_enter Try.func4, Try.ntmps4
    go_wp2_with fail
    refine (HLA.out _ (Below.refl _ _)).mono ?_
    rintro e w1 ⟨rfl, b1⟩
    go_wp2_with fail
    refine (HAL.out _).mono ?_
    rintro e w2 ⟨rfl, b2⟩
    go_wp2
    go_ret
    exact ⟨rfl, b1.trans (b2.mono b1.size)⟩
  | true =>
    rw [hla] at HLA
    obtain ⟨hal, has⟩ := light_sizes hla
    have HAS := Lib.hid has
    have a20 : na ≤ 20 := by rw [← HNA.out]; exact hal
    clear hla hal has
    cases hlb : lightB bx with
    | false =>
      rw [hlb] at HLB
      clear hlb
      go_enter Try.func4, Try.ntmps4
      go_wp2_with fail
      refine (HLA.out _ (Below.refl _ _)).mono ?_
      rintro e w1 ⟨rfl, b1⟩
      have HB1 := Lib.hid b1
      clear b1
      go_wp2_with fail
      refine (HLB.out _ HB1.out).mono ?_
      rintro e w2 ⟨rfl, b2⟩
      have HB2 := Lib.hid (HB1.out.trans (b2.mono HB1.out.size))
      clear b2
      go_wp2_with fail
      refine (HAL.out _).mono ?_
      rintro e w3 ⟨rfl, b3⟩
      go_wp2
      go_ret
      exact ⟨rfl, HB2.out.trans (b3.mono HB2.out.size)⟩
    | true =>
      rw [hlb] at HLB
      obtain ⟨hbl, hbs⟩ := light_sizes hlb
      have HBS := Lib.hid hbs
      have b20 : nb ≤ 20 := by rw [← HNB.out]; exact hbl
      clear hlb hbl hbs
      by_cases h10 : 10 < m
      · have t1 : decide ((10 : Int) < m) = true := by simp; omega
        have i1 : (10 : Int) < m := by omega
        go_enter Try.func4, Try.ntmps4
        go_wp2_with fail
        refine (HLA.out _ (Below.refl _ _)).mono ?_
        rintro e w1 ⟨rfl, b1⟩
        have HB1 := Lib.hid b1
        clear b1
        go_wp2_with fail
        refine (HLB.out _ HB1.out).mono ?_
        rintro e w2 ⟨rfl, b2⟩
        have HB2 := Lib.hid (HB1.out.trans (b2.mono HB1.out.size))
        clear b2
        go_wp2_with fail
        refine (HAL.out _).mono ?_
        rintro e w3 ⟨rfl, b3⟩
        go_wp2
        go_ret
        exact ⟨rfl, HB2.out.trans (b3.mono HB2.out.size)⟩
      · have t1 : decide ((10 : Int) < m) = false := by simp; omega
        have i1 : (m : Int) ≤ 10 := by omega
        have HTA := Lib.hid (fun (W : World) (h : Below w.heap.size w W) => tidy_any oa ca ax W (by rw [HNA.out]; omega) (HS0.out.1.below h) (small_sizes HAS.out))
        have HTB := Lib.hid (fun (W : World) (h : Below w.heap.size w W) => tidy_any ob cb bx W (by rw [HNB.out]; omega) (HS0.out.2.1.below h) (small_sizes HBS.out))
        rw [HNA.out] at HTA
        rw [HNB.out] at HTB
        go_enter Try.func4, Try.ntmps4
        go_wp2_with fail
        refine (HLA.out _ (Below.refl _ _)).mono ?_
        rintro e w1 ⟨rfl, b1⟩
        have HB1 := Lib.hid b1
        clear b1
        go_wp2_with fail
        refine (HLB.out _ HB1.out).mono ?_
        rintro e w2 ⟨rfl, b2⟩
        have HB2 := Lib.hid (HB1.out.trans (b2.mono HB1.out.size))
        clear b2 HB1
        go_wp2_with fail
        refine (HAL.out _).mono ?_
        rintro e w3 ⟨rfl, b3⟩
        have HB3 := Lib.hid (HB2.out.trans (b3.mono HB2.out.size))
        clear b3 HB2
        go_wp2_with fail
        refine (HTA.out _ HB3.out).mono ?_
        rintro e w4 ⟨hta, b4⟩
        have HB4 := Lib.hid (HB3.out.trans (b4.mono HB3.out.size))
        clear b4 HB3
        rcases hta with ⟨hta, va, rfl, hoa⟩ | ⟨_, rfl⟩
        case inr =>
          go_wp2_with fail
          refine (HTB.out _ HB4.out).mono ?_
          rintro e w5 ⟨htb, b5⟩
          have HB5 := Lib.hid (HB4.out.trans (b5.mono HB4.out.size))
          clear b5 HB4
          rcases htb with ⟨_, vb, rfl, hob⟩ | ⟨_, rfl⟩
          · have HOB := Lib.hid hob
            clear hob
            go_wp2
            go_ret
            exact ⟨rfl, HB5.out⟩
          · go_wp2
            go_ret
            exact ⟨rfl, HB5.out⟩
        obtain ⟨X, hX⟩ : ∃ X, sortL ax = X := ⟨_, rfl⟩
        have hrx : rightB X = true := by rw [← hX]; exact hta
        have hxs : ∀ x ∈ X, x.1.size ≤ 200 ∧ x.2.size ≤ 200 := by rw [← hX]; exact sort_sizes HAS.out
        have hxl : X.length = na := by rw [← hX, (sortL_perm ax).length_eq]; exact HNA.out
        rw [hX] at hoa
        obtain ⟨ox, cx, rfl, hsx, _⟩ := own_sees hoa
        rw [hxl]
        have HRX := Lib.hid hrx
        have HXS := Lib.hid hxs
        have HXL := Lib.hid hxl
        have HX4 := Lib.hid hsx
        clear hta hrx hxs hxl hoa hsx hX
        go_wp2_with fail
        refine (HTB.out _ HB4.out).mono ?_
        rintro e w5 ⟨htb, b5⟩
        have HB5 := Lib.hid (HB4.out.trans (b5.mono HB4.out.size))
        have HX5 := Lib.hid (HX4.out.below b5)
        clear b5 HB4 HX4
        rcases htb with ⟨htb, vb, rfl, hob⟩ | ⟨_, rfl⟩
        case inr =>
          go_wp2
          go_ret
          exact ⟨rfl, HB5.out⟩
        obtain ⟨Y, hY⟩ : ∃ Y, sortL bx = Y := ⟨_, rfl⟩
        have hry : rightB Y = true := by rw [← hY]; exact htb
        have hys : ∀ x ∈ Y, x.1.size ≤ 200 ∧ x.2.size ≤ 200 := by rw [← hY]; exact sort_sizes HBS.out
        have hyl : Y.length = nb := by rw [← hY, (sortL_perm bx).length_eq]; exact HNB.out
        rw [hY] at hob
        obtain ⟨oy, cy, rfl, hsy, _⟩ := own_sees hob
        rw [hyl]
        have HYL := Lib.hid hyl
        have HY5 := Lib.hid hsy
        have HTX := Lib.hid (fun (W : World) (h : SeesO W ox X) => text_any ox cx X W (by rw [HXL.out]; omega) h (fun x hx => by have := HXS.out x hx; omega))
        have HTY := Lib.hid (fun (W : World) (h : SeesO W oy Y) => text_any oy cy Y W (by rw [hyl]; omega) h (fun x hx => by have := hys x hx; omega))
        rw [HXL.out] at HTX
        rw [hyl] at HTY
        have hts := text_same HRX.out hry
        obtain ⟨sx, hsx⟩ : ∃ s : ByteArray, (⟨(textT X).toArray⟩ : ByteArray) = s := ⟨_, rfl⟩
        obtain ⟨sy, hsy2⟩ : ∃ s : ByteArray, (⟨(textT Y).toArray⟩ : ByteArray) = s := ⟨_, rfl⟩
        rw [hsx] at hts HTX
        rw [hsy2] at hts HTY
        have HSL := Lib.hid (fun (W : World) (h : SeesO W ox X) (h' : SeesO W oy Y) => sameLabels_sees ox oy cx cy na nb X Y W HXL.out hyl (by omega) (by omega) h h')
        obtain ⟨sb, hsb⟩ : ∃ b, sameL X Y = b := ⟨_, rfl⟩
        rw [hsb] at hts HSL
        clear htb hry hys hyl hob hsy hY hsx hsy2 hsb
        go_wp2_with fail
        refine (HTX.out _ HX5.out).mono ?_
        rintro e w6 ⟨rfl, b6⟩
        have HB6 := Lib.hid (HB5.out.trans (b6.mono HB5.out.size))
        have HX6 := Lib.hid (HX5.out.below b6)
        have HY6 := Lib.hid (HY5.out.below b6)
        clear b6 HB5 HX5 HY5
        go_wp2_with fail
        refine (HTY.out _ HY6.out).mono ?_
        rintro e w7 ⟨rfl, b7⟩
        have HB7 := Lib.hid (HB6.out.trans (b7.mono HB6.out.size))
        have HX7 := Lib.hid (HX6.out.below b7)
        have HY7 := Lib.hid (HY6.out.below b7)
        clear b7 HB6 HX6 HY6
        go_wp2_with fail
        refine (HSL.out _ HX7.out HY7.out).mono ?_
        rintro e w8 ⟨rfl, b8⟩
        have HB8 := Lib.hid (HB7.out.trans (b8.mono HB7.out.size))
        have HX8 := Lib.hid (HX7.out.below b8)
        clear b8 HB7 HX7 HY7
        obtain ⟨A, hA⟩ : ∃ A, X.filter (inB ns) = A := ⟨_, rfl⟩
        obtain ⟨B, hB⟩ : ∃ B, X.filter (outB ns) = B := ⟨_, rfl⟩
        have hpm : (A ++ B).Perm X := by rw [← hA, ← hB]; exact split_perm ns X
        have hasz : ∀ x ∈ A ++ B, x.1.size ≤ 200 ∧ x.2.size ≤ 200 := fun x hx => HXS.out x (hpm.mem_iff.1 hx)
        have HON := Lib.hid (fun (W : World) (h : SeesO W ox X) (h' : Below w.heap.size w W) => only_any ox on cx cn X ns W (by rw [HXL.out]; omega) (by rw [HM.out]; unfold maxLen; omega) h (HS0.out.2.2.below h') (small_sizes HXS.out))
        have HWN := Lib.hid (fun (W : World) (h : SeesO W ox X) (h' : Below w.heap.size w W) => without_any ox on cx cn X ns W (by rw [HXL.out]; omega) (by rw [HM.out]; unfold maxLen; omega) h (HS0.out.2.2.below h') (small_sizes HXS.out))
        rw [HXL.out, HM.out, hA] at HON
        rw [HXL.out, HM.out, hB] at HWN
        have HPM := Lib.hid hpm
        have HASZ := Lib.hid hasz
        have hAn : A.length + B.length = na := by rw [← List.length_append, hpm.length_eq]; exact HXL.out
        have hA20 : A.length ≤ 20 := by omega
        have hB20 : B.length ≤ 20 := by omega
        have HAN := Lib.hid hAn
        clear hA hB hpm hasz hAn
        go_wp2_with fail
        refine (HON.out _ HX8.out HB8.out).mono ?_
        rintro e w9 ⟨⟨v9, rfl, ho9⟩, b9⟩
        obtain ⟨o9, c9, rfl, hsrc9⟩ := own_src ho9
        have HB9 := Lib.hid (HB8.out.trans (b9.mono HB8.out.size))
        have HX9 := Lib.hid (HX8.out.below b9)
        have z9 := HB9.out.size
        clear b9 HB8 HX8 ho9
        go_wp2_with (at_builtin; go_must (refine wpList_append_src rfl _ _ 22 rfl w9.heap.size 38 i0 (.agg #[.string ⟨#[]⟩, .string ⟨#[]⟩]) 2 32 Try.underlying22 hi hz0 hz1 hz2 rfl (by decide) (.slice none 0 0) 0 [] rfl (World.ownsRow_nil _ _ _ _) o9 A.length c9 (flatL A) rfl (flatL_len A) (hsrc9 _ (Below.refl _ _)) (flat_cells A) (by unfold maxLen; omega) (by omega) (Nat.le_refl _) ?_); intro v10 w10 ho10 hg10)
        have hb10 : Below w9.heap.size w9 w10 := ⟨hg10.os, hg10.tape, hg10.output, hg10.size, fun k hk => hg10.block k hk (by simp [Value.ownBlock])⟩
        have HB10 := Lib.hid (HB9.out.trans (hb10.mono z9))
        have HX10 := Lib.hid (HX9.out.below hb10)
        have H910 := Lib.hid hb10
        have HO10 := Lib.hid ho10
        have z10 := HB10.out.size
        have z910 := hb10.size
        clear hb10 hg10 ho10 hsrc9 HB9
        go_wp2_with fail
        refine (HWN.out _ HX10.out HB10.out).mono ?_
        rintro e w11 ⟨⟨v11, rfl, ho11⟩, b11⟩
        obtain ⟨o11, c11, rfl, hsrc11⟩ := own_src ho11
        have HB11 := Lib.hid (HB10.out.trans (b11.mono z10))
        have H911 := Lib.hid (H910.out.trans (b11.mono z910))
        have hO11 := own_grown HO10.out b11
        have z11 := HB11.out.size
        have zw := b11.size
        clear b11 HB10 HX10 ho11 HO10
        go_wp2_with (at_builtin; go_must (refine wpList_append_src rfl _ _ 22 rfl w9.heap.size 38 i0 (.agg #[.string ⟨#[]⟩, .string ⟨#[]⟩]) 2 32 Try.underlying22 hi hz0 hz1 hz2 rfl (by decide) v10 _ _ rfl hO11 o11 B.length c11 (flatL B) rfl (flatL_len B) (hsrc11 _ (Below.refl _ _)) (flat_cells B) (by unfold maxLen; omega) (by omega) (by omega) ?_); intro v12 w12 ho12 hg12)
        have hb12 : Below w.heap.size w w12 := Below.grown HB11.out hg12 z11 (fun j hj => by have := (hO11.lt j hj).1; omega)
        have ho12b : w12.ownsRow w9.heap.size 38 2 v12 (A ++ B).length (flatL (A ++ B)) := by
          rw [flatL_app, List.length_append]
          have := ho12
          rwa [Nat.zero_add, List.nil_append] at this
        obtain ⟨o12, c12, rfl, hs12, _⟩ := own_sees ho12b
        have hX12 : SeesO w12 ox X := HX9.out.below (Below.grown H911.out hg12 (by omega) (fun j hj => (hO11.lt j hj).1))
        have HB12 := Lib.hid hb12
        have HX12 := Lib.hid hX12
        have HTD := Lib.hid (tidy_of o12 c12 na (A ++ B) X w12 (by rw [List.length_append]; exact HAN.out) (by omega) HPM.out HRX.out hs12 HASZ.out)
        rw [show (A ++ B).length = na by rw [List.length_append]; exact HAN.out]
        clear ho12 hg12 hO11 hsrc11 HB11 hb12 ho12b hs12 hX12
        go_wp2_with fail
        refine HTD.out.mono ?_
        rintro e w13 ⟨⟨o13, c13, rfl, h13⟩, b13⟩
        have HB13 := Lib.hid (HB12.out.trans (b13.mono HB12.out.size))
        have HX13 := Lib.hid (HX12.out.below b13)
        have H13 := Lib.hid h13
        clear b13 h13 HB12 HX12
        have hsl := sameLabels_sees o13 ox c13 cx na na X X w13 HXL.out HXL.out (by omega) (by omega) H13.out HX13.out
        rw [sameL_refl] at hsl
        have HSS := Lib.hid hsl
        clear hsl
        go_wp2_with fail
        refine HSS.out.mono ?_
        rintro e w14 ⟨rfl, b14⟩
        go_wp2
        go_ret
        exact ⟨rfl, HB13.out.trans (b14.mono HB13.out.size)⟩
end Go.Proofs.Ytjeenanoboaaeaa
