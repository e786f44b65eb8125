/- The walk of the statement on names. -/
import Derived.Test.YtecipkkjjcacmaaDoorWi
import Derived.Laws.Cover4
import Derived.Laws.IdiomStrings
namespace Go.Proofs.YtecipkkjjcacmaaDoor
open Go.RowKit

theorem encode_eq (r : Int) : (Utf8.encode r).data.toList = Lib.encodeRune r := by
  unfold Utf8.encode Lib.encodeRune
  by_cases hv : Utf8.valid r = true
  · simp only [hv, if_true]
    have hv' : (0 ≤ r ∧ r < 55296) ∨ (57344 ≤ r ∧ r ≤ 1114111) := by simpa [Utf8.valid] using hv
    by_cases h1 : r ≤ 127
    · rw [if_pos (by omega), Lib.encodeRuneZ_one (by omega) h1]; rfl
    · rw [if_neg (by omega)]
      by_cases h2 : r ≤ 2047
      · rw [if_pos (by omega), Lib.encodeRuneZ_two (by omega) h2]
        simp only [List.map_cons, List.map_nil]
        rw [show (192 + r / 64).toNat = 192 + r.toNat / 64 by omega, show (128 + r % 64).toNat = 128 + r.toNat % 64 by omega]
      · rw [if_neg (by omega)]
        by_cases h3 : r ≤ 65535
        · rw [if_pos (by omega), Lib.encodeRuneZ_three (by omega)]
          simp only [List.map_cons, List.map_nil]
          rw [show (224 + r / 4096).toNat = 224 + r.toNat / 4096 by omega, show (128 + r / 64 % 64).toNat = 128 + r.toNat / 64 % 64 by omega, show (128 + r % 64).toNat = 128 + r.toNat % 64 by omega]
        · rw [if_neg (by omega), Lib.encodeRuneZ_four (by omega) (by omega)]
          simp only [List.map_cons, List.map_nil]
          rw [show (240 + r / 262144).toNat = 240 + r.toNat / 262144 by omega, show (128 + r / 4096 % 64).toNat = 128 + r.toNat / 4096 % 64 by omega, show (128 + r / 64 % 64).toNat = 128 + r.toNat / 64 % 64 by omega, show (128 + r % 64).toNat = 128 + r.toNat % 64 by omega]
  · have hv' : ¬ ((0 ≤ r ∧ r < 55296) ∨ (57344 ≤ r ∧ r ≤ 1114111)) := by simpa [Utf8.valid] using hv
    have hv2 : Utf8.valid r = false := by simpa using hv
    rw [Lib.encodeRuneZ_bad (by omega)]
    simp only [hv2, Bool.false_eq_true, if_false]
    decide

theorem spell_nil : spell [] = [] := rfl
theorem spell_step (l : List UInt8) (hne : l ≠ []) : spell l = rune l :: spell (l.drop (Lib.decodeL l).2) := by
  unfold spell; rw [sufs_step l hne, List.map_cons]

/-- The runes as the conversion makes them. -/
theorem runesFrom_eq (s : ByteArray) : ∀ (b pos : Nat) (acc : Array Value), s.size ≤ pos + b → Conv.runesFrom s b pos acc = acc ++ ((spell (s.data.toList.drop pos)).map (Value.int .i32)).toArray
  | 0, pos, acc, h => by
    rw [spell_end (by omega)]; simp [Conv.runesFrom]
  | b + 1, pos, acc, h => by
    unfold Conv.runesFrom
    by_cases hp : pos < s.size
    · rw [if_pos hp]
      dsimp only
      have hw := width1 s pos
      rw [runesFrom_eq s b _ _ (by omega), spell_at hp]
      simp
    · rw [if_neg hp, spell_end hp]; simp

/-- Runes that are runes: nothing in the text is a wrong byte. -/
def Right (l : List UInt8) : Prop := ∀ t ∈ sufs l, ¬ ((Lib.decodeL t).1 = 65533 ∧ (Lib.decodeL t).2 = 1)

theorem spell_app (l : List UInt8) : ∀ u, Right l → spell (l ++ u) = spell l ++ spell u := by
  induction l using sufs_induct with
  | h0 => intro u _; rfl
  | h1 l hne ih =>
    intro u hr
    have hv := hr l (by rw [sufs_step l hne]; simp)
    have hd := decodeL_app l u hne hv
    have hwl := Lib.decodeL_le l hne
    have hne2 : l ++ u ≠ [] := by simp [hne]
    have e := ih u (fun t ht => hr t (by rw [sufs_step l hne]; simp [ht]))
    rw [spell_step (l ++ u) hne2, hd, List.drop_append_of_le_length hwl, e, spell_step l hne]
    unfold rune
    rw [hd]; rfl
theorem spell_encode (r : Int) : spell (Lib.encodeRune r) = [norm r] := by
  obtain ⟨h1, h2, _⟩ := decodeL_encode r
  rw [spell_step _ (encodeRune_ne r), h2, List.drop_length, spell_nil]
  unfold rune; rw [h1]
theorem count_spell (l : List UInt8) : countOf l = (spell l).length := by simp [countOf, spell]
theorem ascii_cons (c : UInt8) (hc : c.toNat < 128) (l : List UInt8) : spell (c :: l) = (c.toNat : Int) :: spell l := by
  have hd : Lib.decodeL (c :: l) = (c.toNat, 1) := by
    rw [Lib.decodeL_N]
    unfold Lib.decodeN
    rw [if_pos (by simpa using hc)]; rfl
  rw [spell_step _ (by simp)]
  unfold rune
  rw [hd]; rfl

theorem nameGo_snoc : ∀ (xs : List Int) (k : Nat) (r : Int), k ≤ 30 → nameGo k xs = true →
    k + xs.length ≤ 30 ∧ 0 < k + xs.length ∧ nameGo k (xs ++ [r]) = decide ((kindZ r = 1 ∨ kindZ r = 2) ∧ k + xs.length < 30)
  | [], k, r, hk, h => by
    have h0 : 0 < k := by simpa [nameGo] using h
    refine ⟨by simpa using hk, by simpa using h0, ?_⟩
    rw [List.nil_append, Bool.eq_iff_iff, decide_eq_true_iff]
    by_cases hb : k = 30 ∨ (kindZ r ≠ 1 ∧ (kindZ r ≠ 2 ∨ k = 0))
    · rw [name_bad _ _ _ hb]; simp; intro _; omega
    · rw [name_good _ _ _ hb]; simp [nameGo]; omega
  | x :: xs, k, r, hk, h => by
    by_cases hb : k = 30 ∨ (kindZ x ≠ 1 ∧ (kindZ x ≠ 2 ∨ k = 0))
    · rw [name_bad _ _ _ hb] at h; cases h
    · rw [name_good _ _ _ hb] at h
      obtain ⟨h1, h2, h3⟩ := nameGo_snoc xs (k + 1) r (by omega) h
      rw [List.cons_append, name_good _ _ _ hb, h3, List.length_cons]
      refine ⟨by omega, by omega, ?_⟩
      rw [show k + 1 + xs.length = k + (xs.length + 1) by omega]
theorem nameGo_kinds : ∀ (xs : List Int) (k : Nat), nameGo k xs = true → ∀ x ∈ xs, kindZ x = 1 ∨ kindZ x = 2
  | [], _, _ => by simp
  | x :: xs, k, h => by
    by_cases hb : k = 30 ∨ (kindZ x ≠ 1 ∧ (kindZ x ≠ 2 ∨ k = 0))
    · rw [name_bad _ _ _ hb] at h; cases h
    · rw [name_good _ _ _ hb] at h
      intro y hy
      rcases List.mem_cons.1 hy with rfl | hy
      · omega
      · exact nameGo_kinds xs (k + 1) h y hy
theorem name_right (l : List UInt8) (h : nameB l = true) : Right l := by
  intro t ht hbad
  have hk := nameGo_kinds _ _ h (rune t) (by unfold spell; exact List.mem_map_of_mem ht)
  have : rune t = 65533 := by unfold rune; rw [hbad.1]; rfl
  rw [this] at hk
  revert hk; decide

theorem name_app (l : List UInt8) (r : Int) (h : nameB l = true) :
    countOf l ≤ 30 ∧ nameB (l ++ Lib.encodeRune r) = decide ((kindZ (norm r) = 1 ∨ kindZ (norm r) = 2) ∧ countOf l < 30) ∧ countOf (l ++ Lib.encodeRune r) = countOf l + 1 ∧ spell (l ++ Lib.encodeRune r) = spell l ++ [norm r] := by
  have e : spell (l ++ Lib.encodeRune r) = spell l ++ [norm r] := by rw [spell_app l _ (name_right l h), spell_encode]
  obtain ⟨h1, h2, h3⟩ := nameGo_snoc (spell l) 0 (norm r) (by omega) h
  refine ⟨by rw [count_spell]; omega, ?_, ?_, e⟩
  · unfold nameB; rw [e, h3, count_spell, Nat.zero_add]
  · rw [count_spell, count_spell, e]; simp
theorem name_blank (l : List UInt8) : nameB (32 :: l) = false := by
  unfold nameB; rw [ascii_cons 32 (by decide)]; exact name_bad _ _ _ (by decide)
theorem name_one (l : List UInt8) : nameB (49 :: l) = false := by
  unfold nameB; rw [ascii_cons 49 (by decide)]; exact name_bad _ _ _ (by decide)

theorem len_count (l : List UInt8) : l.length ≤ 4 * countOf l := by
  induction l using sufs_induct with
  | h0 => simp
  | h1 l hne ih =>
    have h4 : (Lib.decodeL l).2 ≤ 4 := by
      rw [Lib.decodeL_N]
      rcases Lib.decodeN_shape l.length (l.getD 0 0).toNat (l.getD 1 0).toNat (l.getD 2 0).toNat (l.getD 3 0).toNat with ⟨c, e⟩ | ⟨c1, c2, c3, cv, e⟩ | ⟨c1, c2, c3, c4, cv, cs, e⟩ | ⟨c1, c2, c3, c4, c5, cv, cw, e⟩ | e
      all_goals (rw [e]; dsimp only; omega)
    unfold countOf at ih ⊢
    rw [sufs_step l hne, List.length_cons]
    rw [List.length_drop] at ih; omega

/-- A text's runes as a slice: the cells, and that nothing else has turned. -/
theorem runes_conv (s : ByteArray) (hs : s.size ≤ 1099511627776) (W : World) : ∃ (cap : Nat) (W' : World),
    (convert 9 33 (.string s)).run Tryd.prog W = .ok (.slice (some ⟨W.heap.size, 0, none⟩) (spell s.data.toList).length cap) W' ∧ Below W.heap.size W W' ∧ W'.heap.size = W.heap.size + 1 ∧ (spell s.data.toList).length ≤ cap ∧
    ∀ j x, (spell s.data.toList)[j]? = some x → W'.cell? ⟨W.heap.size, j, none⟩ = some (.int .i32 x) := by
  have he := runesFrom_eq s s.size 0 #[] (by omega)
  rw [List.drop_zero] at he
  have hsz : (Conv.runesFrom s s.size 0 #[]).size = (spell s.data.toList).length := by rw [he]; simp
  have hle : (spell s.data.toList).length ≤ s.size := by
    have := sufs_len s.data.toList
    rw [← Lib.size_eq] at this
    simpa [spell] using this
  have hc := run_runes_of_string (P := Tryd.prog) W 9 33 21 s Tryd.underlying9 Tryd.underlying33 Tryd.underlying21 (by rw [hsz]; omega)
  rw [hsz] at hc
  refine ⟨_, _, hc, (Below.drew (Below.refl _ W)).alloc (Nat.le_refl _) _, by simp, grownCap_ge _ _ _ _, fun j x hx => ?_⟩
  have hj : j < (spell s.data.toList).length := (List.getElem?_eq_some_iff.1 hx).1
  have e1 : ∀ A : Array Value, (W.drew.alloc (.cells A 21)).cell? ⟨W.heap.size, j, none⟩ = A[j]? := by
    intro A
    have this : (W.drew.alloc (.cells A 21)).heap[W.heap.size]? = some (.cells A 21) := by
      show (W.heap.push _)[W.heap.size]? = _
      simp
    unfold World.cell?
    simp only [this]
    rfl
  rw [e1, he]
  have hxj : (spell s.data.toList)[j] = x := (List.getElem?_eq_some_iff.1 hx).2
  simp [Array.getElem?_append, hj, hxj]

theorem name_at (s : ByteArray) (b : Bool) (hb : nameB s.data.toList = b) (w : World) : Calls Tryd.prog 15 #[.string s] w fun e w' => e = .returned (.bool b) ∧ Below w.heap.size w w' :=
  (name_any s w).mono fun e w' ⟨h, hw⟩ => ⟨by rw [h, hb], hw⟩
theorem count_at (s : ByteArray) (n : Nat) (hn : countOf s.data.toList = n) (hs : s.size ≤ maxLen) (w : World) : Calls Tryd.prog 14 #[.string s] w fun e w' => e = .returned (.int .i64 n) ∧ Below w.heap.size w w' :=
  (count_any s w hs).mono fun e w' ⟨h, hw⟩ => ⟨by rw [h, hn], hw⟩

set_option maxHeartbeats 2000000 in
set_option maxRecDepth 100000 in
theorem names_any (s : ByteArray) (r : Int) (ev : Value) (w : World) (h0 : 0 < w.heap.size) (hG : w.cell? ⟨0, 0, none⟩ = some ev) (hev : ev = .nilIface ∨ ∃ te pe, ev = .iface te pe) (hs : s.size ≤ maxLen) :
    Calls Tryd.prog 6 #[.string s, .int .i32 r] w fun e w' => e = .returned (.bool true) ∧ Below w.heap.size w w' := by
  have cA := Lib.hid (fun W (h : 0 < W.heap.size) (h2 : W.cell? ⟨0, 0, none⟩ = some ev) => alive_any ev W h h2 hev)
  clear hev
  cases hn : nameB s.data.toList with
  | false =>
    have C1 := Lib.hid (fun W => name_at s false hn W)
    clear hn
    go_enter Tryd.func6, Tryd.ntmps6
    go_wp2_with fail
    refine (C1.out _).mono ?_
    rintro e w1 ⟨rfl, b1⟩
    have hG1 : w1.cell? ⟨0, 0, none⟩ = some ev := by rw [b1.cell (p := ⟨0, 0, none⟩) h0]; exact hG
    have z1 := b1.size
    go_wp2_with fail
    refine (cA.out _ (by omega) hG1).mono ?_
    rintro e w2 ⟨rfl, b2⟩
    go_wp2_with fail
    go_ret
    exact ⟨rfl, b1.trans (b2.mono (by omega))⟩
  | true =>
    obtain ⟨hc30, hnm, hcn, hsp⟩ := name_app s.data.toList r hn
    have C1 := Lib.hid (fun W => name_at s true hn W)
    clear hn
    go_enter Tryd.func6, Tryd.ntmps6
    go_wp2_with fail
    refine (C1.out _).mono ?_
    rintro e w1 ⟨rfl, b1⟩
    have hG1 : w1.cell? ⟨0, 0, none⟩ = some ev := by rw [b1.cell (p := ⟨0, 0, none⟩) h0]; exact hG
    have z1 := b1.size
    go_wp2_with fail
    refine (cA.out _ (by omega) hG1).mono ?_
    rintro e w2 ⟨rfl, b2⟩
    go_wp2_with fail
    refine (kind_any r _).mono ?_
    rintro e w3 ⟨rfl, rfl⟩
    have hl4 := len_count s.data.toList
    have hs120 : s.size ≤ 120 := by rw [Lib.size_eq]; omega
    have hrb : (runesBytes [r]).data.toList = Lib.encodeRune r := by
      unfold runesBytes
      rw [List.foldl_cons, List.foldl_nil, ByteArray.empty_append, encode_eq]
    have hr4 : (runesBytes [r]).size ≤ 4 := by have := runesBytes_size_le [r]; simpa using this
    obtain ⟨t, ht⟩ : ∃ t, t = s ++ runesBytes [r] := ⟨_, rfl⟩
    have htl : t.data.toList = s.data.toList ++ Lib.encodeRune r := by rw [ht, ← hrb]; simp
    have hts : t.size ≤ 124 := by rw [ht, ByteArray.size_append]; omega
    have hcell : ∀ j, j < [r].length → (w2.alloc (.cells #[.int .i32 r] 21)).cell? ((⟨w2.heap.size, 0, none⟩ : Addr).add j) = some (.int .i32 ([r].getD j 0)) := by
      intro j hj
      have : j = 0 := by simpa using hj
      subst this; simp [Addr.add]
    have hcv := run_convert_runes (P := Tryd.prog) (w2.alloc (.cells #[.int .i32 r] 21)) 33 9 21 ⟨w2.heap.size, 0, none⟩ 1 1 [r] (by simp) Tryd.underlying33 Tryd.underlying21 Tryd.underlying9 hcell
    have hb3 : Below w2.heap.size w2 (w2.alloc (.cells #[.int .i32 r] 21)) := (Below.refl _ _).alloc (Nat.le_refl _) _
    have hz3 : (w2.alloc (.cells #[.int .i32 r] 21)).heap.size = w2.heap.size + 1 := by simp
    clear hcell
    obtain ⟨W3, hW3⟩ : ∃ W3, W3 = w2.alloc (.cells #[.int .i32 r] 21) := ⟨_, rfl⟩
    rw [← hW3] at hcv hb3 hz3
    obtain ⟨cap4, W4, hc4, hb4, hz4, hcap4, hx4⟩ := runes_conv t (by omega) W3
    obtain ⟨cap5, W5, hc5, hb5, hz5, hcap5, hx5⟩ := runes_conv t (by omega) W4
    rw [htl, hsp] at hc4 hc5 hcap4 hcap5 hx4 hx5
    have hn1 : (spell s.data.toList ++ [norm r]).length = countOf s.data.toList + 1 := by rw [count_spell]; simp
    have hx : W5.cell? ⟨W3.heap.size, countOf s.data.toList, none⟩ = some (.int .i32 (norm r)) := by
      rw [hb5.cell (p := ⟨W3.heap.size, _, none⟩) (by show W3.heap.size < W4.heap.size; omega)]
      exact hx4 _ _ (by rw [count_spell]; simp)
    rw [hn1] at hc4 hc5 hcap4 hcap5
    have C6 := Lib.hid (fun W => count_at s _ rfl hs W)
    obtain ⟨n, hn⟩ : ∃ n, n = countOf s.data.toList := ⟨_, rfl⟩
    rw [← hn] at hc4 hc5 hcap4 hcap5 hx C6 hc30 hnm hcn
    have C2 := Lib.hid (fun W => name_at t (decide ((kindZ (norm r) = 1 ∨ kindZ (norm r) = 2) ∧ n < 30)) (by rw [htl]; exact hnm) W)
    have C5 := Lib.hid (fun W => count_at t (n + 1) (by rw [htl]; exact hcn) (by unfold maxLen; omega) W)
    have D1 : nameB (⟨#[32]⟩ ++ s).data.toList = false := by
      have : (⟨#[32]⟩ ++ s : ByteArray).data.toList = 32 :: s.data.toList := by simp
      rw [this]; exact name_blank _
    have D2 : nameB (⟨#[49]⟩ ++ s).data.toList = false := by
      have : (⟨#[49]⟩ ++ s : ByteArray).data.toList = 49 :: s.data.toList := by simp
      rw [this]; exact name_one _
    have C3 := Lib.hid (fun W => name_at _ false D1 W)
    have C4 := Lib.hid (fun W => name_at _ false D2 W)
    have hB : Below w.heap.size w W5 := by
      have := b2.size
      exact (((b1.trans (b2.mono (by omega))).trans (hb3.mono (by omega))).trans (hb4.mono (by omega))).trans (hb5.mono (by omega))
    clear hnm hcn hsp hn htl hn1 hx4 hx5 hl4 hrb hb4 hb5 hb3 b1 b2 hz4 hz5 hG hG1 D1 D2
    have hcv' : Sem.run Tryd.prog (convert 33 9 (Value.slice (some { block := w2.heap.size, off := 0 }) 1 1)) W3 = Result.ok (Value.string (runesBytes [r])) W3 := hcv
    have hadd : ((n : Int) + 1 - 1) = (n : Int) := by omega
    have ht' := ht.symm
    have hW3' := hW3.symm
    clear ht hW3 hcv
    rw [hz3] at hx
    have hk12 : norm r = r → ((kindZ (norm r) = 1 ∨ kindZ (norm r) = 2) ↔ (kindZ r = 1 ∨ kindZ r = 2)) := fun h => by rw [h]
    by_cases hr : norm r = r
    · rw [hr] at hx C2
      obtain ⟨b, hb⟩ : ∃ b, b = decide ((kindZ r = 1 ∨ kindZ r = 2) ∧ n < 30) := ⟨_, rfl⟩
      rw [← hb] at C2
      have hcases : ((kindZ r = 1 ∧ (n : Int) < 30 ∧ b = true) ∨ (kindZ r = 1 ∧ (30 : Int) ≤ n ∧ b = false)) ∨ ((((kindZ r == 1) = false) ∧ kindZ r = 2 ∧ (n : Int) < 30 ∧ b = true) ∨ (((kindZ r == 1) = false) ∧ kindZ r = 2 ∧ (30 : Int) ≤ n ∧ b = false)) ∨ (((kindZ r == 1) = false) ∧ ((kindZ r == 2) = false) ∧ b = false) := by
        rw [hb]
        simp only [beq_eq_false_iff_ne, decide_eq_true_eq, decide_eq_false_iff_not]
        omega
      clear hk12 hr hb
      rcases hcases with (⟨k1, k2, rfl⟩ | ⟨k1, k2, rfl⟩) | (⟨k0, k1, k2, rfl⟩ | ⟨k0, k1, k2, rfl⟩) | ⟨k1, k2, rfl⟩
      case inr.inr =>
        go_wp2_with fail
        refine (C2.out _).mono ?_
        rintro e w6 ⟨rfl, b6⟩
        go_wp2_with fail
        refine (C3.out _).mono ?_
        rintro e w7 ⟨rfl, b7⟩
        go_wp2_with fail
        refine (C4.out _).mono ?_
        rintro e w8 ⟨rfl, b8⟩
        go_wp2_with fail
        refine (C5.out _).mono ?_
        rintro e w9 ⟨rfl, b9⟩
        go_wp2_with fail
        refine (C6.out _).mono ?_
        rintro e w10 ⟨rfl, b10⟩
        go_wp2_with fail
        go_ret
        have z5 := hB.size
        have z6 := b6.size
        have z7 := b7.size
        have z8 := b8.size
        have z9 := b9.size
        exact ⟨rfl, ((((hB.trans (b6.mono (by omega))).trans (b7.mono (by omega))).trans (b8.mono (by omega))).trans (b9.mono (by omega))).trans (b10.mono (by omega))⟩
      all_goals
        go_wp2_with fail
        refine (C6.out _).mono ?_
        rintro e w5 ⟨rfl, b5⟩
        go_wp2_with fail
        refine (C2.out _).mono ?_
        rintro e w6 ⟨rfl, b6⟩
        go_wp2_with fail
        refine (C3.out _).mono ?_
        rintro e w7 ⟨rfl, b7⟩
        go_wp2_with fail
        refine (C4.out _).mono ?_
        rintro e w8 ⟨rfl, b8⟩
        go_wp2_with fail
        refine (C5.out _).mono ?_
        rintro e w9 ⟨rfl, b9⟩
        go_wp2_with fail
        refine (C6.out _).mono ?_
        rintro e w10 ⟨rfl, b10⟩
        go_wp2_with fail
        go_ret
        have z4 := hB.size
        have z5 := b5.size
        have z6 := b6.size
        have z7 := b7.size
        have z8 := b8.size
        have z9 := b9.size
        exact ⟨ret_bool (by first | rfl | (simp; omega)), (((((hB.trans (b5.mono (by omega))).trans (b6.mono (by omega))).trans (b7.mono (by omega))).trans (b8.mono (by omega))).trans (b9.mono (by omega))).trans (b10.mono (by omega))⟩
    · have hr' : (norm r != r) = true := by rw [bne_iff_ne]; exact hr
      clear hk12 hr
      go_wp2_with fail
      go_ret
      exact ⟨rfl, hB⟩
end Go.Proofs.YtecipkkjjcacmaaDoor
