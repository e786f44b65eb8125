/- The walk of the statement on two texts, one behind the other. -/
import Derived.Test.YtecipkkjjcacmaaDoorSp
import Derived.BigQuiet
import Derived.Deep.QuietTactic
namespace Go.Proofs.YtecipkkjjcacmaaDoor
open Go.RowKit

theorem runesBytes_data (ns : List Int) : (runesBytes ns).data.toList = ns.flatMap Lib.encodeRune := by
  have key : ∀ (ns : List Int) (b : ByteArray), (ns.foldl (fun r n => r ++ Utf8.encode n) b).data.toList = b.data.toList ++ ns.flatMap Lib.encodeRune := by
    intro ns
    induction ns with
    | nil => intro b; simp
    | cons n ns ih =>
      intro b
      rw [List.foldl_cons, ih, ByteArray.data_append, Array.toList_append, encode_eq, List.flatMap_cons, List.append_assoc]
  unfold runesBytes
  rw [key]; simp
theorem sufs_enc (r : Int) (u : List UInt8) : sufs (Lib.encodeRune r ++ u) = (Lib.encodeRune r ++ u) :: sufs u := by
  obtain ⟨_, h2⟩ := decodeL_encode_app r u
  rw [sufs_step _ (by simp [encodeRune_ne r]), h2, List.drop_left]
theorem right_enc : ∀ ns : List Int, Right (ns.flatMap Lib.encodeRune)
  | [] => by intro t ht; simp [sufs_nil] at ht
  | r :: ns => by
    intro t ht
    rw [List.flatMap_cons, sufs_enc] at ht
    rcases List.mem_cons.1 ht with rfl | ht
    · obtain ⟨_, _, h3⟩ := decodeL_encode r
      rw [decodeL_app _ _ (encodeRune_ne r) h3]; exact h3
    · exact right_enc ns t ht
theorem spell_enc : ∀ ns : List Int, spell (ns.flatMap Lib.encodeRune) = ns.map norm
  | [] => rfl
  | r :: ns => by
    have h1 := (decodeL_encode_app r (ns.flatMap Lib.encodeRune)).1
    have h2 := spell_enc ns
    unfold spell at h2 ⊢
    rw [List.flatMap_cons, sufs_enc, List.map_cons, h2, List.map_cons]
    unfold rune; rw [h1]
theorem enc_norm (r : Int) : Lib.encodeRune (norm r) = Lib.encodeRune r := by
  unfold norm
  by_cases h : r < 0 ∨ (55296 ≤ r ∧ r ≤ 57343) ∨ 1114111 < r
  · rw [if_pos h]
    unfold Lib.encodeRune
    rw [Lib.encodeRuneZ_bad h]; decide
  · rw [if_neg h]

/-- What Spell leaves, for one who reads it. -/
theorem Spelt.open {B : Nat} {xs : List Int} {e : Ending} {w : World} (h : Spelt B xs e w) : ∃ (oa : Option Addr) (cap : Nat), e = .returned (.slice oa xs.length cap) ∧ xs.length ≤ cap ∧ ((oa = none ∧ xs = []) ∨ ∃ g, oa = some ⟨g, 0, none⟩ ∧ g < w.heap.size ∧ ∀ j x, xs[j]? = some x → w.cell? ⟨g, j, none⟩ = some (.int .i32 x)) := by
  obtain ⟨v, rfl, hl, h2⟩ := h
  rcases h2 with ⟨rfl, h0⟩ | ⟨g, cap, cur, rfl, hg, hh, hn, hcap, hsz, htake⟩
  · have : xs = [] := by simpa using h0
    subst this
    exact ⟨none, 0, rfl, by simp, .inl ⟨rfl, rfl⟩⟩
  · refine ⟨some ⟨g, 0, none⟩, cap, rfl, hn, .inr ⟨g, rfl, (Array.getElem?_eq_some_iff.1 hh).1, fun j x hx => ?_⟩⟩
    have hj : j < xs.length := (List.getElem?_eq_some_iff.1 hx).1
    have hown : w.ownsRow B 21 1 (.slice (some ⟨g, 0, none⟩) xs.length cap) xs.length (xs.map (Value.int .i32)) := ⟨hl, .inr ⟨g, cap, cur, rfl, hg, hh, hn, hcap, hsz, htake⟩⟩
    rw [hown.cellAt j (by omega)]
    simp [hx]

/-- A list that stands as it was told, in a later world. -/
def Lies (oa : Option Addr) (xs : List Int) (W : World) : Prop := (oa = none ∧ xs = []) ∨ ∃ g, oa = some ⟨g, 0, none⟩ ∧ ∀ (n j : Nat) (x : Int), xs[j]? = some x → (W.drewN n).cell? ⟨g, j, none⟩ = some (.int .i32 x)
theorem lies_later {oa : Option Addr} {xs : List Int} {w W : World} (h : (oa = none ∧ xs = []) ∨ ∃ g, oa = some ⟨g, 0, none⟩ ∧ g < w.heap.size ∧ ∀ j x, xs[j]? = some x → w.cell? ⟨g, j, none⟩ = some (.int .i32 x)) (hb : Below w.heap.size w W) : Lies oa xs W := by
  rcases h with h | ⟨g, h1, h2, h3⟩
  · exact .inl h
  · refine .inr ⟨g, h1, fun n j x hx => ?_⟩
    have e : (W.drewN n).cell? ⟨g, j, none⟩ = W.cell? ⟨g, j, none⟩ := rfl
    rw [e, hb.cell (p := ⟨g, j, none⟩) h2]; exact h3 j x hx
theorem lies_conv {oa : Option Addr} {xs : List Int} {W : World} (h : Lies oa xs W) (n cap m : Nat) (hn : xs.length = n) : (convert 33 9 (.slice oa n cap)).run Tryd.prog (W.drewN m) = .ok (.string (runesBytes xs)) (W.drewN m) := by
  rcases h with ⟨rfl, rfl⟩ | ⟨g, rfl, h3⟩
  · rw [run_convert_runes_nil (P := Tryd.prog) _ 33 9 21 _ _ Tryd.underlying33 Tryd.underlying21 Tryd.underlying9]; rfl
  · have := run_convert_runes (P := Tryd.prog) (W.drewN m) 33 9 21 ⟨g, 0, none⟩ n cap xs (by omega) Tryd.underlying33 Tryd.underlying21 Tryd.underlying9 (by
      intro j hj
      have e : ((⟨g, 0, none⟩ : Addr).add j) = ⟨g, j, none⟩ := by simp [Addr.add]; intro h; exact h.symm
      rw [e, h3 m j (xs.getD j 0) (by simp [List.getD, hj])])
    rw [this, ← hn, List.take_length]

set_option maxHeartbeats 4000000 in
set_option maxRecDepth 100000 in
theorem spells_any (oa ob : Option Addr) (na ca nb cb : Nat) (xs ys : List Int) (hna : xs.length = na) (hnb : ys.length = nb) (hnam : na ≤ maxLen) (hnbm : nb ≤ maxLen) (ev : Value) (w : World) (h0 : 0 < w.heap.size) (hG : w.cell? ⟨0, 0, none⟩ = some ev) (hev : ev = .nilIface ∨ ∃ te pe, ev = .iface te pe)
    (hca : ∀ W, Below w.heap.size w W → (convert 33 9 (.slice oa na ca)).run Tryd.prog W = .ok (.string (runesBytes xs)) W)
    (hcb : ∀ W, Below w.heap.size w W → (convert 33 9 (.slice ob nb cb)).run Tryd.prog W = .ok (.string (runesBytes ys)) W) :
    Calls Tryd.prog 7 #[.slice oa na ca, .slice ob nb cb] w fun e w' => e = .returned (.bool true) ∧ Below w.heap.size w w' := by
  unfold maxLen at hnam hnbm
  have cA := Lib.hid (fun W (h : 0 < W.heap.size) (h2 : W.cell? ⟨0, 0, none⟩ = some ev) => alive_any ev W h h2 hev)
  clear hev
  have HCA := Lib.hid hca
  have HCB := Lib.hid hcb
  have HNA := Lib.hid hna
  have HNB := Lib.hid hnb
  clear hca hcb hna hnb
  by_cases hbig : 300 < na ∨ 300 < nb
  · have i1 : (300 : Int) < na ∨ ((na : Int) ≤ 300 ∧ (300 : Int) < nb) := by omega
    clear hbig
    rcases i1 with i1 | ⟨i1, i2⟩
    all_goals
      go_enter Tryd.func7, Tryd.ntmps7
      go_wp2_with (go_at_call 8; refine (cA.out _ h0 hG).mono ?_; rintro e w1 ⟨rfl, b1⟩)
      go_ret
      exact ⟨rfl, b1⟩
  · have i1 : (na : Int) ≤ 300 := by omega
    have i2 : (nb : Int) ≤ 300 := by omega
    obtain ⟨s, hs⟩ : ∃ s, s = runesBytes xs := ⟨_, rfl⟩
    obtain ⟨t, ht⟩ : ∃ t, t = runesBytes ys := ⟨_, rfl⟩
    have hss : s.size ≤ 1200 := by have := runesBytes_size_le xs; rw [hs]; have := HNA.out; omega
    have hts : t.size ≤ 1200 := by have := runesBytes_size_le ys; rw [ht]; have := HNB.out; omega
    have hst : (s ++ t).size ≤ 2400 := by rw [ByteArray.size_append]; omega
    have hsd : s.data.toList = xs.flatMap Lib.encodeRune := by rw [hs, runesBytes_data]
    have htd : t.data.toList = ys.flatMap Lib.encodeRune := by rw [ht, runesBytes_data]
    have hsx : spell s.data.toList = xs.map norm := by rw [hsd, spell_enc]
    have hty : spell t.data.toList = ys.map norm := by rw [htd, spell_enc]
    have hstz : spell (s ++ t).data.toList = xs.map norm ++ ys.map norm := by
      rw [ByteArray.data_append, Array.toList_append, spell_app _ _ (by rw [hsd]; exact right_enc xs), hsx, hty]
    have hback : runesBytes (xs.map norm ++ ys.map norm) = s ++ t := by
      have : (runesBytes (xs.map norm ++ ys.map norm)).data.toList = (s ++ t).data.toList := by
        rw [runesBytes_data, ByteArray.data_append, Array.toList_append, hsd, htd, List.flatMap_append, List.flatMap_map, List.flatMap_map]
        simp only [enc_norm]
      cases h1 : runesBytes (xs.map norm ++ ys.map norm)
      cases h2 : s ++ t
      rw [h1, h2] at this
      congr 1
      exact Array.ext' this
    obtain ⟨X, hX⟩ : ∃ X, X = xs.map norm := ⟨_, rfl⟩
    obtain ⟨Y, hY⟩ : ∃ Y, Y = ys.map norm := ⟨_, rfl⟩
    have hXl : X.length = na := by rw [hX, List.length_map]; exact HNA.out
    have hYl : Y.length = nb := by rw [hY, List.length_map]; exact HNB.out
    rw [← hX, ← hY] at hstz hback
    rw [← hX] at hsx
    rw [← hY] at hty
    have C1 := Lib.hid (fun W => (spell_any s W (by omega)))
    have C2 := Lib.hid (fun W => (spell_any t W (by omega)))
    have C3 := Lib.hid (fun W => (spell_any (s ++ t) W (by omega)))
    have C4 := Lib.hid (fun W => count_at (s ++ t) (na + nb) (by rw [count_spell, hstz, List.length_append]; omega) (by unfold maxLen; omega) W)
    rw [hsx] at C1
    rw [hty] at C2
    rw [hstz] at C3
    rw [← hs] at HCA
    rw [← ht] at HCB
    have HBK := Lib.hid hback
    have HXL := Lib.hid hXl
    have HYL := Lib.hid hYl
    clear hback hXl hYl hX hY hstz hsx hty hsd htd hs ht hbig HNA HNB
    go_enter Tryd.func7, Tryd.ntmps7
    go_wp2_with fail
    refine (cA.out _ h0 hG).mono ?_
    rintro e w1 ⟨rfl, b1⟩
    have q1 : ∀ n, (convert 33 9 (.slice oa na ca)).run Tryd.prog (w1.drewN n) = .ok (.string s) (w1.drewN n) := fun n => HCA.out _ (b1.trans ⟨rfl, rfl, rfl, Nat.le_refl _, fun _ _ => rfl⟩)
    have q2 : ∀ n, (convert 33 9 (.slice ob nb cb)).run Tryd.prog (w1.drewN n) = .ok (.string t) (w1.drewN n) := fun n => HCB.out _ (b1.trans ⟨rfl, rfl, rfl, Nat.le_refl _, fun _ _ => rfl⟩)
    go_wp2_with fail
    go_quiet (fail)
    clear q1 q2
    go_wp2_with fail
    refine (C1.out _).mono ?_
    rintro e w2 ⟨hsp, b2⟩
    obtain ⟨ox, cx, he, hcx, hx⟩ := hsp.open
    rw [HXL.out] at he hcx
    subst he
    clear hsp
    go_wp2_with fail
    refine (C2.out _).mono ?_
    rintro e w3 ⟨hsp, b3⟩
    obtain ⟨oy, cy, he, hcy, hy⟩ := hsp.open
    rw [HYL.out] at he hcy
    subst he
    clear hsp
    go_wp2_with fail
    refine (C3.out _).mono ?_
    rintro e w4 ⟨hsp, b4⟩
    obtain ⟨oz, cz, he, hcz, hz⟩ := hsp.open
    rw [List.length_append, HXL.out, HYL.out] at he hcz
    subst he
    clear hsp
    go_wp2_with fail
    refine (C4.out _).mono ?_
    rintro e w5 ⟨rfl, b5⟩
    have z1 := b1.size
    have z2 := b2.size
    have z3 := b3.size
    have z4 := b4.size
    have hd : (w1.drewN nq).heap.size = w1.heap.size := rfl
    have hB : Below w.heap.size w w5 := by
      have e1 : Below w.heap.size w (w1.drewN nq) := b1.trans ⟨rfl, rfl, rfl, Nat.le_refl _, fun _ _ => rfl⟩
      exact (((e1.trans (b2.mono z1)).trans (b3.mono (by omega))).trans (b4.mono (by omega))).trans (b5.mono (by omega))
    have lx := Lib.hid (lies_later hx ((b3.trans (b4.mono z3)).trans (b5.mono (by omega))))
    have ly := Lib.hid (lies_later hy (b4.trans (b5.mono z4)))
    have lz := Lib.hid (lies_later hz b5)
    have hcv : ∀ m, (convert 33 9 (.slice oz (na + nb) cz)).run Tryd.prog (w5.drewN m) = .ok (.string (s ++ t)) (w5.drewN m) := by
      intro m
      have := lies_conv lz.out (na + nb) cz m (by rw [List.length_append, HXL.out, HYL.out])
      rw [HBK.out] at this; exact this
    have HCV := Lib.hid hcv
    clear hx hy hz hcv b1 b2 b3 b4 b5 z1 z2 z3 z4 hd
    go_wp2
    go_loopw [10] (fun vi wr => ∃ (k m : Nat), vi = .int .i64 k ∧ wr = w5.drewN m ∧ k ≤ na + nb) (fun vi _ => na + nb - (intOf vi).toNat)
    case atStart => exact ⟨0, 0, rfl, rfl, Nat.zero_le _⟩
    case round =>
      obtain ⟨k, m, rfl, rfl, hk⟩ := hrel
      by_cases hkz : k < na + nb
      · rcases lz.out with ⟨_, hz0⟩ | ⟨gz, rfl, hzc⟩
        · exfalso
          have := congrArg List.length hz0
          rw [List.length_append, HXL.out, HYL.out] at this; simp at this; omega
        · have kz : (k : Int) < (na : Int) + nb := by omega
          by_cases hka : k < na
          · rcases lx.out with ⟨_, hx0⟩ | ⟨gx, rfl, hxc⟩
            · exfalso
              have := congrArg List.length hx0
              rw [HXL.out] at this; simp at this; omega
            · have hkX : X[k]? = some (X.getD k 0) := by have := HXL.out; simp [List.getD, show k < X.length by omega]
              have c1 : ∀ n, (w5.drewN n).cell? ⟨gx, k, none⟩ = some (.int .i32 (X.getD k 0)) := fun n => hxc n k _ hkX
              have c2 : ∀ n, (w5.drewN n).cell? ⟨gz, k, none⟩ = some (.int .i32 (X.getD k 0)) := fun n => hzc n k _ (by rw [List.getElem?_append_left (by have := HXL.out; omega)]; exact hkX)
              generalize X.getD k 0 = c at c1 c2
              have g1 : decide (k < na) = true := by simpa using hka
              have g2 : decide (na ≤ k) = false := by simpa using hka
              clear hkX hxc hzc
              go_wp2_with fail
              go_quiet (fail)
              go_wp2
              go_roundw
              case rel => exact ⟨k + 1, _, by go_num, rfl, by omega⟩
              case measure => simp [intOf]; omega
          · obtain ⟨j, rfl⟩ : ∃ j, k = na + j := ⟨k - na, by omega⟩
            rcases ly.out with ⟨_, hy0⟩ | ⟨gy, rfl, hyc⟩
            · exfalso
              have := congrArg List.length hy0
              rw [HYL.out] at this; simp at this; omega
            · have hjY : Y[j]? = some (Y.getD j 0) := by have := HYL.out; simp [List.getD, show j < Y.length by omega]
              have c1 : ∀ n, (w5.drewN n).cell? ⟨gy, j, none⟩ = some (.int .i32 (Y.getD j 0)) := fun n => hyc n j _ hjY
              have c2 : ∀ n, (w5.drewN n).cell? ⟨gz, na + j, none⟩ = some (.int .i32 (Y.getD j 0)) := fun n => hzc n (na + j) _ (by
                have := HXL.out
                rw [List.getElem?_append_right (by omega), show na + j - X.length = j by omega]; exact hjY)
              generalize Y.getD j 0 = c at c1 c2
              have kj : (j : Int) < nb := by omega
              have kj2 : j < nb := by omega
              have s1 : IntKind.i64.wrap (j : Int) = j := by rw [IntKind.wrap_i64]; omega
              have g1 : decide ((na : Int) + j < na) = false := by simp; omega
              have g2 : decide (na + j < na) = false := by simp
              have g3 : decide ((na : Int) ≤ (na : Int) + j) = true := by simp; omega
              have g4 : decide (na ≤ na + j) = true := by simp
              clear hjY hyc hzc hka
              go_wp2_with fail
              go_quiet (fail)
              go_wp2
              go_roundw
              case rel => exact ⟨na + j + 1, _, by go_num, rfl, by omega⟩
              case measure => simp [intOf]; omega
      · obtain rfl : k = na + nb := by omega
        have kz : (na : Int) + nb ≤ (na + nb : Nat) := by omega
        have hcv := HCV.out m
        go_wp2
        go_ret
        exact ⟨rfl, hB.trans ⟨rfl, rfl, rfl, Nat.le_refl _, fun _ _ => rfl⟩⟩
end Go.Proofs.YtecipkkjjcacmaaDoor
