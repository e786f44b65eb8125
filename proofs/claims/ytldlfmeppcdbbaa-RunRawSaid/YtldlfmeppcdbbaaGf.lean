import Derived.Test.YtldlfmeppcdbbaaGa
import Derived.Laws.OwnMore
import Derived.Deep.DeepMust
import Derived.Test.YtldlfmeppcdbbaaGe
import Derived.BigQuiet
import Derived.Deep.QuietTactic
import Derived.WalkLawsBesides
import Derived.Deep.RegionLaw
import Derived.Deep.AppendLies
section
/- A walk: a text's runes as a list. -/

namespace Go.Proofs.Ytldlfmeppcdbbaa
open Go.RowKit

theorem tryd_info21 : (Try.prog.info? 21).map (fun i => (i.zero, i.size, i.bytes)) = some (some (.int .i32 0), 1, 4) := by kernel_rfl
theorem ownsRow_iterAt {w : World} {base : Nat} {e : TypeId} {size : Nat} {v : Value} {n : Nat} {xs : List Value} (h : w.ownsRow base e size v n xs) {k : Nat} (hk : k < base) (s : ByteArray) (p : Nat) : (w.iterAt k s p).ownsRow base e size v n xs := by
  obtain ⟨h1, h2⟩ := h
  refine ⟨h1, ?_⟩
  rcases h2 with h2 | ⟨g, cap, cur, a, b, c, d⟩
  · exact .inl h2
  · exact .inr ⟨g, cap, cur, a, b, by rw [Lib.iterAt_other _ _ _ _ _ (by omega)]; exact c, d⟩
theorem cell_1 (w : World) (v : Value) (t : TypeId) : ∀ j u, [v][j]? = some u → (w.alloc (.cells #[v] t)).cell? ((⟨w.heap.size, 0, none⟩ : Addr).add j) = some u := by
  intro j u hj
  match j, hj with
  | 0, hj => simp at hj; subst hj; simp [Addr.add]
  | j + 1, hj => simp at hj
theorem one_i32 (x : Int) : ∀ v ∈ [Value.int .i32 x], v.oneCell' = true := by
  intro v hv; simp at hv; subst hv; rfl
/-- What Spell leaves: a slice of the call's own that holds the runes. -/
def Spelt (B : Nat) (xs : List Int) (e : Ending) (w' : World) : Prop := ∃ v, e = .returned v ∧ w'.ownsRow B 21 1 v xs.length (xs.map (Value.int .i32))

set_option maxHeartbeats 2000000 in
set_option maxRecDepth 100000 in
theorem spell_any (s : ByteArray) (w : World) (hs : s.size ≤ 1099511627776) :
    Calls Try.prog 59 #[.string s] w fun e w' => Spelt (w.heap.size + 1) (spell s.data.toList) e w' ∧ Below w.heap.size w w' := by
  obtain ⟨i0, hi, hz0, hz1, hz2⟩ := info_parts tryd_info21
  go_enter Try.func59, Try.ntmps59
  go_wp2
  go_loopw [3] (fun v wr => ∃ (pos : Nat) (xs : List Int), wr.heap[w.heap.size]? = some (.stringIter s pos) ∧ wr.ownsRow (w.heap.size + 1) 21 1 v xs.length (xs.map (Value.int .i32)) ∧ Below w.heap.size w wr ∧ Hid (xs ++ spell (s.data.toList.drop pos) = spell s.data.toList) ∧ xs.length ≤ pos ∧ pos ≤ s.size) (fun _ wr => s.size - wr.iterPos w.heap.size)
  case atStart => exact ⟨0, [], World.iter_heap w s 0, World.ownsRow_nil _ _ _ _, (Below.refl _ _).alloc (Nat.le_refl _) _, (by show _ = _; simp), by simp, Nat.zero_le _⟩
  case round =>
    obtain ⟨pos, xs, hit, hown, hbw, H, hk, hps⟩ := hrel
    have hpos0 := iterPos_of hit
    by_cases hp : pos < s.size
    · have hnx : ∀ ty, (Instr.next (.pointer (some ⟨w.heap.size, 0, none⟩)) true ty).run Try.prog wr = _ := fun ty => Lib.run_next_any_at wr w.heap.size s pos ty hit hp
      have hwd := width1 s pos
      have hwl := width_le hp
      have hit2 := Lib.iterAt_heap wr w.heap.size s pos (pos + (Utf8.decode s pos).2) hit
      have hbw2 := Lib.below_iterAt hbw (k := w.heap.size) (Nat.le_refl _) s (pos + (Utf8.decode s pos).2)
      have hown2 := ownsRow_iterAt hown (k := w.heap.size) (by omega) s (pos + (Utf8.decode s pos).2)
      have H2 : Hid ((xs ++ [((Utf8.decode s pos).1 : Int)]) ++ spell (s.data.toList.drop (pos + (Utf8.decode s pos).2)) = spell s.data.toList) := by
        show _ = _
        rw [← H.out, spell_at hp]; simp
      obtain ⟨W1, hW1⟩ : ∃ W1, W1 = wr.iterAt w.heap.size s (pos + (Utf8.decode s pos).2) := ⟨_, rfl⟩
      rw [← hW1] at hnx hit2 hbw2 hown2
      have hBlt : w.heap.size < W1.heap.size := (Array.getElem?_eq_some_iff.1 hit2).1
      clear hW1 hit hown hbw H
      go_wp2_with (at_builtin; go_must (refine wpList_append_own _ rfl _ _ 106 rfl (w.heap.size + 1) 21 i0 (.int .i32 0) 1 4 Try.underlying106 hi hz0 hz1 hz2 rfl (by decide) _ _ _ rfl (hown2.alloc _) ⟨W1.heap.size, 0, none⟩ 1 1 [.int .i32 ((Utf8.decode s pos).1 : Int)] rfl rfl (cell_1 _ _ _) (one_i32 _) (by unfold maxLen; omega) (by omega) (by simp; omega) ?_); intro v' w3 hown' hgrow3 hnil3)
      have hit3 : w3.heap[w.heap.size]? = some (.stringIter s (pos + (Utf8.decode s pos).2)) := by
        rw [hgrow3.block w.heap.size (by simp; omega) (fun h => by have := (hown2.lt _ h.symm).1; omega), Below.heap_alloc _ _ _ hBlt]; exact hit2
      have hbw3 : Below w.heap.size w w3 := Below.grown (hbw2.alloc (by omega) _) hgrow3 (by simp; omega) (fun j hj => by have := (hown2.lt _ hj).1; omega)
      have ho3 : w3.ownsRow (w.heap.size + 1) 21 1 v' (xs ++ [((Utf8.decode s pos).1 : Int)]).length ((xs ++ [((Utf8.decode s pos).1 : Int)]).map (Value.int .i32)) := by
        rw [List.length_append, List.map_append]; exact hown'
      clear hown' hgrow3 hnil3
      go_roundw
      case rel => exact ⟨pos + (Utf8.decode s pos).2, xs ++ [((Utf8.decode s pos).1 : Int)], hit3, ho3, hbw3, H2, by rw [List.length_append]; simp; omega, hwl⟩
      case measure => rw [iterPos_of hit3, hpos0]; omega
    · have hnx : ∀ ty, (Instr.next (.pointer (some ⟨w.heap.size, 0, none⟩)) true ty).run Try.prog wr = _ := fun ty => Lib.run_next_end_at wr w.heap.size s pos ty hit hp
      have H2 : Hid (xs = spell s.data.toList) := by
        show _ = _
        rw [← H.out, spell_end hp]; simp
      clear H
      go_wp2
      go_ret
      refine ⟨?_, hbw⟩
      rw [← H2.out]
      exact ⟨_, rfl, hown⟩
end Go.Proofs.Ytldlfmeppcdbbaa
end

section
/- Walks: the document's own Spell, Kind and Name. -/

namespace Go.Proofs.Ytldlfmeppcdbbaa
open Go.RowKit

/-- A slice that the call owns, opened: its value and where its cells lie. -/
theorem own_open {B e n : Nat} {v : Value} {xs : List Value} {w : World} (h : w.ownsRow B e 1 v n xs) : (v = .slice none 0 0 ∧ n = 0 ∧ xs = []) ∨ ∃ g cap, v = .slice (some ⟨g, 0, none⟩) n cap ∧ B ≤ g ∧ g < w.heap.size ∧ n ≤ cap ∧ cap ≤ maxLen ∧ ∀ j u, xs[j]? = some u → w.cell? ⟨g, j, none⟩ = some u := by
  have hl := h.1
  rcases h.2 with ⟨rfl, h0⟩ | ⟨g, cap, cur, rfl, hg, hh, hn, hcap, hsz, htake⟩
  · subst h0
    exact .inl ⟨rfl, rfl, List.eq_nil_of_length_eq_zero (by simpa using hl)⟩
  · refine .inr ⟨g, cap, rfl, hg, (Array.getElem?_eq_some_iff.1 hh).1, hn, hcap, fun j u hu => ?_⟩
    have hj : j < xs.length := (List.getElem?_eq_some_iff.1 hu).1
    rw [h.cellAt j (by omega), hu]

set_option maxHeartbeats 2000000 in
set_option maxRecDepth 100000 in
theorem rspell_any (s : ByteArray) (w : World) (hs : s.size ≤ 1099511627776) :
    Calls Try.prog 59 #[.string s] w fun e w' => Spelt (w.heap.size + 1) (spell s.data.toList) e w' ∧ Below w.heap.size w w' := by
  obtain ⟨i0, hi, hz0, hz1, hz2⟩ := info_parts tryd_info21
  go_enter Try.func59, Try.ntmps59
  go_wp2
  go_loopw [3] (fun v wr => ∃ (pos : Nat) (xs : List Int), wr.heap[w.heap.size]? = some (.stringIter s pos) ∧ wr.ownsRow (w.heap.size + 1) 21 1 v xs.length (xs.map (Value.int .i32)) ∧ Below w.heap.size w wr ∧ Hid (xs ++ spell (s.data.toList.drop pos) = spell s.data.toList) ∧ xs.length ≤ pos ∧ pos ≤ s.size) (fun _ wr => s.size - wr.iterPos w.heap.size)
  case atStart => exact ⟨0, [], World.iter_heap w s 0, World.ownsRow_nil _ _ _ _, (Below.refl _ _).alloc (Nat.le_refl _) _, (by show _ = _; simp), by simp, Nat.zero_le _⟩
  case round =>
    obtain ⟨pos, xs, hit, hown, hbw, H, hk, hps⟩ := hrel
    have hpos0 := iterPos_of hit
    by_cases hp : pos < s.size
    · have hnx : ∀ ty, (Instr.next (.pointer (some ⟨w.heap.size, 0, none⟩)) true ty).run Try.prog wr = _ := fun ty => Lib.run_next_any_at wr w.heap.size s pos ty hit hp
      have hwd := width1 s pos
      have hwl := width_le hp
      have hit2 := Lib.iterAt_heap wr w.heap.size s pos (pos + (Utf8.decode s pos).2) hit
      have hbw2 := Lib.below_iterAt hbw (k := w.heap.size) (Nat.le_refl _) s (pos + (Utf8.decode s pos).2)
      have hown2 := ownsRow_iterAt hown (k := w.heap.size) (by omega) s (pos + (Utf8.decode s pos).2)
      have H2 : Hid ((xs ++ [((Utf8.decode s pos).1 : Int)]) ++ spell (s.data.toList.drop (pos + (Utf8.decode s pos).2)) = spell s.data.toList) := by
        show _ = _
        rw [← H.out, spell_at hp]; simp
      obtain ⟨W1, hW1⟩ : ∃ W1, W1 = wr.iterAt w.heap.size s (pos + (Utf8.decode s pos).2) := ⟨_, rfl⟩
      rw [← hW1] at hnx hit2 hbw2 hown2
      have hBlt : w.heap.size < W1.heap.size := (Array.getElem?_eq_some_iff.1 hit2).1
      clear hW1 hit hown hbw H
      go_wp2_with (at_builtin; go_must (refine wpList_append_own _ rfl _ _ 106 rfl (w.heap.size + 1) 21 i0 (.int .i32 0) 1 4 Try.underlying106 hi hz0 hz1 hz2 rfl (by decide) _ _ _ rfl (hown2.alloc _) ⟨W1.heap.size, 0, none⟩ 1 1 [.int .i32 ((Utf8.decode s pos).1 : Int)] rfl rfl (cell_1 _ _ _) (one_i32 _) (by unfold maxLen; omega) (by omega) (by simp; omega) ?_); intro v' w3 hown' hgrow3 hnil3)
      have hit3 : w3.heap[w.heap.size]? = some (.stringIter s (pos + (Utf8.decode s pos).2)) := by
        rw [hgrow3.block w.heap.size (by simp; omega) (fun h => by have := (hown2.lt _ h.symm).1; omega), Below.heap_alloc _ _ _ hBlt]; exact hit2
      have hbw3 : Below w.heap.size w w3 := Below.grown (hbw2.alloc (by omega) _) hgrow3 (by simp; omega) (fun j hj => by have := (hown2.lt _ hj).1; omega)
      have ho3 : w3.ownsRow (w.heap.size + 1) 21 1 v' (xs ++ [((Utf8.decode s pos).1 : Int)]).length ((xs ++ [((Utf8.decode s pos).1 : Int)]).map (Value.int .i32)) := by
        rw [List.length_append, List.map_append]; exact hown'
      clear hown' hgrow3 hnil3
      go_roundw
      case rel => exact ⟨pos + (Utf8.decode s pos).2, xs ++ [((Utf8.decode s pos).1 : Int)], hit3, ho3, hbw3, H2, by rw [List.length_append]; simp; omega, hwl⟩
      case measure => rw [iterPos_of hit3, hpos0]; omega
    · have hnx : ∀ ty, (Instr.next (.pointer (some ⟨w.heap.size, 0, none⟩)) true ty).run Try.prog wr = _ := fun ty => Lib.run_next_end_at wr w.heap.size s pos ty hit hp
      have H2 : Hid (xs = spell s.data.toList) := by
        show _ = _
        rw [← H.out, spell_end hp]; simp
      clear H
      go_wp2
      go_ret
      refine ⟨?_, hbw⟩
      rw [← H2.out]
      exact ⟨_, rfl, hown⟩

set_option maxHeartbeats 4000000 in
set_option maxRecDepth 100000 in
theorem rkind_any (r : Int) (w : World) : Calls Try.prog 60 #[.int .i32 r] w fun e w' => e = .returned (.int .i64 (kindZ r)) ∧ w = w' := by
  go_enter Try.func60, Try.ntmps60
  go_wp2
  all_goals (go_ret; refine ⟨ret_int ?_, rfl⟩; first | rfl | skip)
  all_goals ((try simp only [beq_iff_eq, beq_eq_false_iff_ne] at *); unfold kindZ; repeat' split)
  all_goals omega

theorem nameGo_long : ∀ (xs : List Int) (n : Nat), n ≤ 30 → 30 < n + xs.length → nameGo n xs = false
  | [], n, h, h2 => by simp at h2; omega
  | x :: xs, n, h, h2 => by
    unfold nameGo
    split
    · rfl
    · next hn =>
      have : n ≠ 30 := fun e => hn (.inl e)
      exact nameGo_long xs (n + 1) (by omega) (by simp at h2; omega)

set_option maxHeartbeats 4000000 in
set_option maxRecDepth 100000 in
theorem rname_any (s : ByteArray) (w : World) (hs : s.size ≤ 1099511627776) : Calls Try.prog 48 #[.string s] w fun e w' => e = .returned (.bool (nameB s.data.toList)) ∧ Below w.heap.size w w' := by
  have CK := Lib.hid (fun r W => rkind_any r W)
  go_enter Try.func48, Try.ntmps48
  go_wp2_with fail
  refine (rspell_any s _ hs).mono ?_
  rintro e w1 ⟨⟨v, rfl, hown⟩, hb1⟩
  obtain ⟨xs, hxs⟩ : ∃ xs, xs = spell s.data.toList := ⟨_, rfl⟩
  have HX := Lib.hid (show nameGo 0 xs = nameB s.data.toList by rw [hxs]; rfl)
  rw [← hxs] at hown
  clear hxs
  have HB := Lib.hid hb1
  obtain ⟨n, hn⟩ : ∃ n, xs.length = n := ⟨_, rfl⟩
  have HN := Lib.hid hn
  rw [hn] at hown
  clear hn hb1
  rcases own_open hown with ⟨rfl, h0, _⟩ | ⟨g, cap, rfl, _, _, hcap, hmax, hcell⟩
  · subst h0
    have h0 : xs = [] := List.eq_nil_of_length_eq_zero HN.out
    have HR := Lib.hid (show false = nameB s.data.toList by rw [← HX.out, h0]; rfl)
    clear h0 hown
    go_wp2
    go_ret
    exact ⟨ret_bool HR.out, HB.out⟩
  · unfold maxLen at hmax
    by_cases hlo : n < 1
    · have h0 : xs = [] := List.eq_nil_of_length_eq_zero (by rw [HN.out]; omega)
      have HR := Lib.hid (show false = nameB s.data.toList by rw [← HX.out, h0]; rfl)
      have i1 : (n : Int) < 1 := by omega
      have t1 : decide ((n : Int) < 1) = true := by simpa using i1
      clear h0 hown hcell
      go_wp2
      go_ret
      exact ⟨ret_bool HR.out, HB.out⟩
    · have i1 : (1 : Int) ≤ n := by omega
      have t1 : decide ((n : Int) < 1) = false := by simp; omega
      by_cases hhi : 30 < n
      · have HR := Lib.hid (show false = nameB s.data.toList by rw [← HX.out, nameGo_long xs 0 (by omega) (by rw [HN.out]; omega)])
        have i2 : (30 : Int) < n := by omega
        have t2 : decide ((30 : Int) < n) = true := by simpa using i2
        clear hown hcell
        go_wp2
        go_ret
        exact ⟨ret_bool HR.out, HB.out⟩
      · have i2 : (n : Int) ≤ 30 := by omega
        have t2 : decide ((30 : Int) < n) = false := by simp; omega
        have hx0 : ∀ k, k < n → xs[k]? = some (xs.getD k 0) := fun k hk => by have := HN.out; simp [List.getD, show k < xs.length by omega]
        have hcx : ∀ k, k < n → w1.cell? ⟨g, k, none⟩ = some (.int .i32 (xs.getD k 0)) := fun k hk => hcell k _ (by rw [List.getElem?_map, hx0 k hk]; rfl)
        have HCX := Lib.hid hcx
        have HX0 := Lib.hid hx0
        have c0 := hcx 0 (by omega)
        have hdrop : ∀ k, k < n → xs.drop k = xs.getD k 0 :: xs.drop (k + 1) := fun k hk => by
          have := HN.out
          rw [List.drop_eq_getElem_cons (by omega)]; simp [List.getD, show k < xs.length by omega]
        have HD := Lib.hid hdrop
        clear hown hcell hx0 hcx hdrop
        by_cases hk1 : kindZ (xs.getD 0 0) = 1
        · have HK1 := Lib.hid hk1
          have t3 : (kindZ (xs.getD 0 0) != 1) = false := by rw [hk1]; rfl
          obtain ⟨x0, hx0⟩ : ∃ x0, x0 = xs.getD 0 0 := ⟨_, rfl⟩
          rw [← hx0] at c0 t3
          clear hk1 hx0
          go_wp2_with fail
          refine (CK.out _ _).mono ?_
          rintro e w2 ⟨rfl, rfl⟩
          go_wp2
          go_loopw [4] (fun vi wr => ∃ k : Nat, vi = .int .i64 k ∧ wr = w1 ∧ k ≤ n ∧ Hid (nameGo k (xs.drop k) = nameB s.data.toList)) (fun vi _ => n - (Go.RowKit.intOf vi).toNat)
          case atStart => exact ⟨0, rfl, rfl, Nat.zero_le _, by show _ = _; rw [List.drop_zero]; exact HX.out⟩
          case round =>
            obtain ⟨k, rfl, rfl, hk, H⟩ := hrel
            by_cases hkn : k < n
            · have j1 : (k : Int) < n := by omega
              have ck := HCX.out k hkn
              have hd := HD.out k hkn
              have h0 := H.out
              rw [hd] at h0
              have hz0 : k = 0 → kindZ (xs.getD k 0) = 1 := fun e => by rw [e]; exact HK1.out
              generalize xs.getD k 0 = x at ck h0 hz0
              by_cases hx1 : kindZ x = 1
              · have H2 : Hid (nameGo (k + 1) (xs.drop (k + 1)) = nameB s.data.toList) := by
                  show _ = _
                  rw [← h0, name_good _ _ _ (by omega)]
                have t4 : (kindZ x != 1) = false := by rw [hx1]; rfl
                clear hx1 h0 hz0 hd
                go_wp2_with fail
                refine (CK.out _ _).mono ?_
                rintro e w2 ⟨rfl, rfl⟩
                go_wp2
                go_roundw
                case rel => exact ⟨k + 1, by go_num, (by first | trivial | rfl), by omega, H2⟩
                case measure => simp [Go.RowKit.intOf]; omega
              · have t4 : (kindZ x != 1) = true := by rw [bne_iff_ne]; exact hx1
                by_cases hx2 : kindZ x = 2
                · have H2 : Hid (nameGo (k + 1) (xs.drop (k + 1)) = nameB s.data.toList) := by
                    show _ = _
                    rw [← h0, name_good _ _ _ (by omega)]
                  have t5 : (kindZ x != 2) = false := by rw [hx2]; rfl
                  clear hx1 hx2 h0 hz0 hd
                  go_wp2_with fail
                  refine (CK.out _ _).mono ?_
                  rintro e w2 ⟨rfl, rfl⟩
                  go_wp2_with fail
                  refine (CK.out _ _).mono ?_
                  rintro e w2 ⟨rfl, rfl⟩
                  go_wp2
                  go_roundw
                  case rel => exact ⟨k + 1, by go_num, (by first | trivial | rfl), by omega, H2⟩
                  case measure => simp [Go.RowKit.intOf]; omega
                · have HR := Lib.hid (show false = nameB s.data.toList by rw [← h0, name_bad _ _ _ (by omega)])
                  have t5 : (kindZ x != 2) = true := by rw [bne_iff_ne]; exact hx2
                  clear hx1 hx2 h0 hz0 hd
                  go_wp2_with fail
                  refine (CK.out _ _).mono ?_
                  rintro e w2 ⟨rfl, rfl⟩
                  go_wp2_with fail
                  refine (CK.out _ _).mono ?_
                  rintro e w2 ⟨rfl, rfl⟩
                  go_wp2
                  go_ret
                  exact ⟨ret_bool HR.out, HB.out⟩
            · have j1 : (n : Int) ≤ k := by omega
              have HR := Lib.hid (show true = nameB s.data.toList by
                rw [← H.out, List.drop_eq_nil_of_le (by rw [HN.out]; omega)]
                unfold nameGo; simp; omega)
              go_wp2
              go_ret
              exact ⟨ret_bool HR.out, HB.out⟩
        · have HR := Lib.hid (show false = nameB s.data.toList by
            have hd := HD.out 0 (by omega)
            rw [List.drop_zero] at hd
            rw [← HX.out, hd, name_bad _ _ _ (by omega)])
          have t3 : (kindZ (xs.getD 0 0) != 1) = true := by rw [bne_iff_ne]; exact hk1
          obtain ⟨x0, hx0⟩ : ∃ x0, x0 = xs.getD 0 0 := ⟨_, rfl⟩
          rw [← hx0] at c0 t3
          clear hk1 hx0
          go_wp2_with fail
          refine (CK.out _ _).mono ?_
          rintro e w2 ⟨rfl, rfl⟩
          go_wp2
          go_ret
          exact ⟨ret_bool HR.out, HB.out⟩
end Go.Proofs.Ytldlfmeppcdbbaa
end

section
/- Walks: the document's own Get and Compare. -/

namespace Go.Proofs.Ytldlfmeppcdbbaa
open Go.RowKit Go.Lib

theorem cmpB_range (a b : List UInt8) : compareBytes a b = -1 ∨ compareBytes a b = 0 ∨ compareBytes a b = 1 := by
  induction a generalizing b with
  | nil => cases b <;> simp [compareBytes]
  | cons x xs ih =>
    cases b with
    | nil => simp [compareBytes]
    | cons y ys =>
      simp only [compareBytes]
      by_cases h1 : x < y
      · simp [h1]
      · by_cases h2 : y < x
        · simp [h1, h2]
        · simp only [h1, h2, if_false]; exact ih ys

set_option maxHeartbeats 1000000 in
set_option maxRecDepth 100000 in
theorem texts_any (a b : ByteArray) (w : World) : Calls Try.prog 69 #[.string a, .string b] w fun e w' => e = .returned (.int .i64 (compareBytes a.data.toList b.data.toList)) ∧ w = w' := by
  have hs := cmpB_spec a.data.toList b.data.toList
  have hr := cmpB_range a.data.toList b.data.toList
  by_cases h1 : a.data.toList < b.data.toList
  · have e : compareBytes a.data.toList b.data.toList = -1 := by have := hs.1.2 h1; omega
    have t1 : Op.bytesLess a.toList b.toList = true := by
      rw [bytesLess_eq, ByteArray.toList_eq, ByteArray.toList_eq]; exact decide_eq_true h1
    rw [e]
    clear hs hr h1 e
    go_enter Try.func69, Try.ntmps69
    go_wp2
    go_ret
    exact ⟨rfl, rfl⟩
  have t1 : Op.bytesLess a.toList b.toList = false := by
    rw [bytesLess_eq, ByteArray.toList_eq, ByteArray.toList_eq]; exact decide_eq_false h1
  by_cases h2 : b.data.toList < a.data.toList
  · have e : compareBytes a.data.toList b.data.toList = 1 := by have := hs.2.2.2 h2; omega
    have t2 : Op.bytesLess b.toList a.toList = true := by
      rw [bytesLess_eq, ByteArray.toList_eq, ByteArray.toList_eq]; exact decide_eq_true h2
    have t3 : (a.toList == b.toList) = false := by
      rw [ByteArray.toList_eq, ByteArray.toList_eq]
      refine beq_eq_false_iff_ne.2 fun hh => ?_
      rw [hh] at h2
      exact absurd h2 (List.lt_irrefl _)
    rw [e]
    clear hs hr h1 h2 e
    go_enter Try.func69, Try.ntmps69
    go_wp2
    go_ret
    exact ⟨rfl, rfl⟩
  · have t2 : Op.bytesLess b.toList a.toList = false := by
      rw [bytesLess_eq, ByteArray.toList_eq, ByteArray.toList_eq]; exact decide_eq_false h2
    have e : compareBytes a.data.toList b.data.toList = 0 := by
      rcases hr with h | h | h
      · exact absurd (hs.1.1 (by omega)) h1
      · exact h
      · exact absurd (hs.2.2.1 (by omega)) h2
    have t3 : (a.toList == b.toList) = true := by
      rw [ByteArray.toList_eq, ByteArray.toList_eq, hs.2.1.1 e]
      exact beq_self_eq_true _
    rw [e]
    clear hs hr h1 h2 e
    go_enter Try.func69, Try.ntmps69
    go_wp2
    go_ret
    exact ⟨rfl, rfl⟩

set_option maxHeartbeats 4000000 in
set_option maxRecDepth 100000 in
theorem rcompare_any (o1 o2 : Option Addr) (c1 c2 : Nat) (xs ys : List Lab) (w : World) (hm : xs.length ≤ maxLen) (_hm2 : ys.length ≤ maxLen) (h1 : SeesO w o1 xs) (h2 : SeesO w o2 ys) :
    Calls Try.prog 61 #[.slice o1 xs.length c1, .slice o2 ys.length c2] w fun e w' => e = .returned (.int .i64 (cmpL xs ys)) ∧ Below w.heap.size w w' := by
  obtain ⟨n, hn⟩ : ∃ n, xs.length = n := ⟨_, rfl⟩
  obtain ⟨m, hm'⟩ : ∃ m, ys.length = m := ⟨_, rfl⟩
  have HN := Lib.hid hn
  have HM := Lib.hid hm'
  rw [hn] at hm ⊢
  rw [hm'] at _hm2 ⊢
  clear hn hm'
  unfold maxLen at hm _hm2
  have HS1 := Lib.hid h1
  have HS2 := Lib.hid h2
  clear h1 h2
  go_enter Try.func61, Try.ntmps61
  go_wp2
  go_loopw [5] (fun v5 wr => ∃ k : Nat, v5 = .int .i64 k ∧ k ≤ n ∧ k ≤ m ∧ Hid (Below w.heap.size w wr) ∧ Hid (cmpL (xs.drop k) (ys.drop k) = cmpL xs ys)) (fun v5 _ => n - (RowKit.intOf v5).toNat)
  case atStart => exact ⟨0, rfl, Nat.zero_le _, Nat.zero_le _, Lib.hid (Below.refl _ _), Lib.hid rfl⟩
  case round =>
    obtain ⟨k, rfl, hk, hk2, HB, H⟩ := hrel
    by_cases hkn : k < n
    · have j1 : (k : Int) < n := by omega
      by_cases hkm : k < m
      · have j2 : (k : Int) < m := by omega
        obtain ⟨x, hx⟩ := get_lt HN.out hkn
        obtain ⟨y, hy⟩ := get_lt HM.out hkm
        obtain ⟨b, off, rfl, hS⟩ := (HS1.out.below HB.out).at hx
        obtain ⟨b2, off2, rfl, hS2⟩ := (HS2.out.below HB.out).at hy
        have a0 := hS.at0 k x hx
        have a1 := hS.at1 k x hx
        have d0 := hS2.at0 k y hy
        have d1 := hS2.at1 k y hy
        have b1 := hS.low
        have b2' := hS2.low
        have HX := Lib.hid (drop_at hx)
        have HY := Lib.hid (drop_at hy)
        have HT1 := Lib.hid (fun W => (show Calls Try.prog 69 #[.string x.1, .string y.1] W fun e w' => e = .returned (.int .i64 (cmpN x y)) ∧ w' = W from (texts_any x.1 y.1 W).mono fun e w' h => ⟨h.1, h.2.symm⟩))
        have HT2 := Lib.hid (fun W => (show Calls Try.prog 69 #[.string x.2, .string y.2] W fun e w' => e = .returned (.int .i64 (cmpV x y)) ∧ w' = W from (texts_any x.2 y.2 W).mono fun e w' h => ⟨h.1, h.2.symm⟩))
        have hz : cmpL (xs.drop k) (ys.drop k) = if cmp2 x y = 0 then cmpL (xs.drop (k + 1)) (ys.drop (k + 1)) else cmp2 x y := by rw [HX.out, HY.out, cmpL]
        have HZ := Lib.hid (H.out.symm.trans hz)
        clear hS hS2 hx hy hz
        obtain ⟨c, hc⟩ : ∃ c, cmpN x y = c := ⟨_, rfl⟩
        obtain ⟨d, hd⟩ : ∃ d, cmpV x y = d := ⟨_, rfl⟩
        have HC2 := Lib.hid (show cmp2 x y = if c = 0 then d else c by unfold cmp2; rw [hc, hd])
        rw [hc] at HT1
        rw [hd] at HT2
        clear hc hd
        go_wp2_with fail
        go_quiet ((go_at_call 69; exact Calls.quiet_of_same (HT1.out _)))
        have HBq := Lib.hid (show Below w.heap.size w (wr.drewN nq) from HB.out.trans ⟨rfl, rfl, rfl, Nat.le_refl _, fun _ _ => rfl⟩)
        by_cases h0 : c = 0
        · have e2 : cmp2 x y = d := by rw [HC2.out, if_pos h0]
          have t1 : (c == 0) = true := by simpa using h0
          obtain ⟨wz, hwz⟩ : ∃ wz, wr.drewN nq = wz := ⟨_, rfl⟩
          have e1 : wz.cell? ⟨b, off + k * 2 + 1, none⟩ = some (.string x.2) := by rw [← hwz]; exact a1
          have f1 : wz.cell? ⟨b2, off2 + k * 2 + 1, none⟩ = some (.string y.2) := by rw [← hwz]; exact d1
          rw [hwz] at HBq ⊢
          have HE2 := Lib.hid e2
          clear hwz h0 e2
          go_wp2_with fail
          go_quiet ((go_at_call 69; exact Calls.quiet_of_same (HT2.out _)))
          have HBz := Lib.hid (show Below w.heap.size w (wz.drewN nq) from HBq.out.trans ⟨rfl, rfl, rfl, Nat.le_refl _, fun _ _ => rfl⟩)
          by_cases h00 : d = 0
          · have t2 : (d != 0) = false := by simp [h00]
            have H2 := Lib.hid (show cmpL (xs.drop (k + 1)) (ys.drop (k + 1)) = cmpL xs ys by rw [HZ.out, if_pos (HE2.out.trans h00)])
            clear h00
            go_wp2
            go_roundw
            case rel => exact ⟨k + 1, by go_num, by omega, by omega, HBz, H2⟩
            case measure => simp [RowKit.intOf]; omega
          · have t2 : (d != 0) = true := by rw [bne_iff_ne]; exact h00
            have H2 := Lib.hid (show d = cmpL xs ys by rw [HZ.out, if_neg (by rw [HE2.out]; exact h00), HE2.out])
            clear h00
            go_wp2
            go_ret
            exact ⟨ret_int H2.out, HBz.out⟩
        · have t1 : (c == 0) = false := by simpa using h0
          have t2 : (c != 0) = true := by rw [bne_iff_ne]; exact h0
          have H2 := Lib.hid (show c = cmpL xs ys by
            have e2 : cmp2 x y = c := by rw [HC2.out, if_neg h0]
            rw [HZ.out, if_neg (by rw [e2]; exact h0), e2])
          clear h0
          go_wp2
          go_ret
          exact ⟨ret_int H2.out, HBq.out⟩
      · have j2 : (m : Int) ≤ k := by omega
        obtain rfl : m = k := by omega
        obtain ⟨x, hx⟩ := get_lt HN.out hkn
        have H2 := Lib.hid (show (1 : Int) = cmpL xs ys by
          have e1 : ys.drop m = [] := List.drop_eq_nil_of_le (by rw [HM.out]; omega)
          rw [← H.out, drop_at hx, e1, cmpL])
        clear hx
        go_wp2
        go_ret
        exact ⟨ret_int H2.out, HB.out⟩
    · obtain rfl : n = k := by omega
      by_cases hnm : n < m
      · have j2 : (n : Int) < m := by omega
        have H2 := Lib.hid (show (-1 : Int) = cmpL xs ys by
          rw [← H.out, List.drop_eq_nil_of_le (by rw [HN.out]; omega)]
          obtain ⟨y, hy⟩ := get_lt HM.out hnm
          rw [drop_at hy, cmpL])
        go_wp2
        go_ret
        exact ⟨ret_int H2.out, HB.out⟩
      · obtain rfl : m = n := by omega
        have H2 := Lib.hid (show (0 : Int) = cmpL xs ys by
          rw [← H.out, List.drop_eq_nil_of_le (by rw [HN.out]; omega), List.drop_eq_nil_of_le (by rw [HM.out]; omega), cmpL])
        go_wp2
        go_ret
        exact ⟨ret_int H2.out, HB.out⟩
end Go.Proofs.Ytldlfmeppcdbbaa
end

section
/- The document's own Tidy: plain, and what its regions lean on. -/

namespace Go.Proofs.Ytldlfmeppcdbbaa
open Go.RowKit Go.Lib

theorem sees_all {w : World} {b off : Nat} {xs : List Lab} (h : Sees w b off xs) : ∀ j u, (flatL xs)[j]? = some u → w.cell? ((⟨b, off, none⟩ : Addr).add j) = some u := by
  intro j u hj
  have hjl : j < xs.length * 2 := by have := (List.getElem?_eq_some_iff.1 hj).1; rw [flatL_len] at this; exact this
  have ha : (⟨b, off, none⟩ : Addr).add j = ⟨b, off + j, none⟩ := by
    unfold Addr.add; split
    · next h => subst h; rfl
    · rfl
  rw [ha]
  obtain ⟨x, hx⟩ : ∃ x, xs[j / 2]? = some x := ⟨_, List.getElem?_eq_getElem (by omega)⟩
  have hf := flatL_at _ _ _ hx
  rcases Nat.mod_two_eq_zero_or_one j with hm | hm
  · rw [show j = j / 2 * 2 by omega, hf.1] at hj
    have := h.at0 _ _ hx
    rw [show off + j / 2 * 2 = off + j by omega] at this
    rw [this]; exact hj
  · rw [show j = j / 2 * 2 + 1 by omega, hf.2] at hj
    have := h.at1 _ _ hx
    rw [show off + j / 2 * 2 + 1 = off + j by omega] at this
    rw [this]; exact hj
theorem drewN_two (w : World) (a b : Nat) : (w.drewN a).drewN b = w.drewN (a + b) := by simp [World.drewN, Nat.add_assoc]
theorem Txt.drewN_below (w : World) (n : Nat) : Below w.heap.size w (w.drewN n) := ⟨rfl, rfl, rfl, Nat.le_refl _, fun _ _ => rfl⟩

/-- A label put where it belongs. -/
def insL (S : List Lab) (x : Lab) (k : Nat) : List Lab := S.take k ++ x :: S.drop k
theorem insL_perm (S : List Lab) (x : Lab) (k : Nat) : (insL S x k).Perm (S ++ [x]) := by
  unfold insL
  have h1 : (S.take k ++ x :: S.drop k).Perm (x :: (S.take k ++ S.drop k)) := List.perm_middle
  rw [List.take_append_drop] at h1
  exact h1.trans (List.perm_append_comm (l₁ := [x]) (l₂ := S))
theorem insL_len (S : List Lab) (x : Lab) (k : Nat) : (insL S x k).length = S.length + 1 := by
  have := (insL_perm S x k).length_eq; simpa using this
/-- The first labels, in order, all fit. -/
def Laid (S zs : List Lab) (i : Nat) : Prop := S.length = i ∧ S.Pairwise (fun a b => nm a < nm b) ∧ S.Perm (zs.take i) ∧ ∀ x ∈ S, fitsB x.1 x.2 = true
theorem Laid.nil (zs : List Lab) : Laid [] zs 0 := ⟨rfl, List.Pairwise.nil, List.Perm.refl _, fun x hx => by simp at hx⟩
theorem Laid.step {S zs : List Lab} {x : Lab} {i : Nat} (h : Laid S zs i) (k : Nat) (h1 : ∀ y ∈ S.take k, nm y < nm x) (h2 : ∀ y, S[k]? = some y → nm x < nm y) (hf : fitsB x.1 x.2 = true) (ht : zs.take (i + 1) = zs.take i ++ [x]) : Laid (insL S x k) zs (i + 1) := by
  obtain ⟨a, b, c, d⟩ := h
  refine ⟨by rw [insL_len, a], ?_, by rw [ht]; exact (insL_perm S x k).trans (c.append_right [x]), fun y hy => ?_⟩
  · unfold insL
    have hdrop : ∀ y ∈ S.drop k, nm x < nm y := by
      have hp : (S.drop k).Pairwise (fun a b => nm a < nm b) := b.sublist (List.drop_sublist _ _)
      cases hd : S.drop k with
      | nil => intro y hy; simp at hy
      | cons z r =>
        have hz : S[k]? = some z := by
          have : (S.drop k)[0]? = some z := by rw [hd]; rfl
          rw [List.getElem?_drop] at this; exact this
        have h3 := h2 z hz
        rw [hd] at hp
        intro y hy
        rcases List.mem_cons.1 hy with rfl | hy
        · exact h3
        · exact lt_trans' h3 ((List.pairwise_cons.1 hp).1 y hy)
    rw [List.pairwise_append]
    refine ⟨b.sublist (List.take_sublist _ _), List.pairwise_cons.2 ⟨hdrop, b.sublist (List.drop_sublist _ _)⟩, fun u hu v hv => ?_⟩
    rcases List.mem_cons.1 hv with rfl | hv
    · exact h1 u hu
    · exact lt_trans' (h1 u hu) (hdrop v hv)
  · rcases List.mem_append.1 ((insL_perm S x k).mem_iff.1 hy) with hy | hy
    · exact d y hy
    · rw [List.mem_singleton.1 hy]; exact hf
theorem Laid.done {S zs : List Lab} {n : Nat} (h : Laid S zs n) (hn : zs.length = n) (h8 : n ≤ 8) : tidyB zs = true ∧ S = sortL zs := by
  obtain ⟨a, b, c, d⟩ := h
  have hr : rightB S = true := (right_iff S).2 ⟨by omega, b, d⟩
  rw [List.take_of_length_le (by omega)] at c
  obtain ⟨e1, e2⟩ := sorted_right c (right_sorted hr)
  exact ⟨by rw [← e2]; exact hr, e1 hr⟩
theorem unfit {zs : List Lab} {x : Lab} (hx : x ∈ zs) (hf : fitsB x.1 x.2 = false) : tidyB zs = false := by
  cases ht : tidyB zs with
  | false => rfl
  | true =>
    have := ((right_iff _).1 ht).2.2 x ((sortL_perm zs).mem_iff.2 hx)
    rw [hf] at this; cases this
theorem twice {zs : List Lab} {i : Nat} {x y : Lab} (hx : zs[i]? = some x) (hy : y ∈ zs.take i) (he : nm y = nm x) : tidyB zs = false := by
  cases ht : tidyB zs with
  | false => rfl
  | true =>
    have hs := ((right_iff _).1 ht).2.1
    have hd : (sortL zs).Pairwise (fun a b => nm a ≠ nm b) := hs.imp fun {a b} h e => by rw [e] at h; exact lt_asymm' h h
    have h3 : zs.Pairwise (fun a b => nm a ≠ nm b) := (sortL_perm zs).pairwise hd (fun h e => h e.symm)
    rw [← List.take_append_drop i zs, List.pairwise_append] at h3
    have hm : x ∈ zs.drop i := by rw [drop_at hx]; exact List.mem_cons_self
    exact absurd he (h3.2.2 y hy x hm)
theorem Sees.take {w : World} {b off : Nat} {xs : List Lab} (h : Sees w b off xs) (k : Nat) : Sees w b off (xs.take k) := by
  have e : ∀ (j : Nat) (x : Lab), (xs.take k)[j]? = some x → xs[j]? = some x := fun j x hx => by
    rw [List.getElem?_take] at hx; split at hx
    · exact hx
    · simp at hx
  exact ⟨h.low, fun j x hx => h.at0 j x (e j x hx), fun j x hx => h.at1 j x (e j x hx)⟩
theorem Sees.drop {w : World} {b off : Nat} {xs : List Lab} (h : Sees w b off xs) (k : Nat) : Sees w b (off + k * 2) (xs.drop k) := by
  refine ⟨h.low, fun j x hx => ?_, fun j x hx => ?_⟩
  · rw [List.getElem?_drop] at hx
    have := h.at0 _ _ hx
    rw [show off + k * 2 + j * 2 = off + (k + j) * 2 by omega]; exact this
  · rw [List.getElem?_drop] at hx
    have := h.at1 _ _ hx
    rw [show off + k * 2 + j * 2 = off + (k + j) * 2 by omega]; exact this
theorem own_posL {B i : Nat} {v : Value} {S : List Lab} {w : World} (h : w.ownsRow B 79 2 v i (flatL S)) (hS : S.length = i) (h1 : 1 ≤ i) : ∃ g cap, v = .slice (some ⟨g, 0, none⟩) i cap ∧ (i : Int) ≤ cap ∧ g < w.heap.size ∧ i ≤ cap ∧ cap ≤ maxLen ∧ Sees w g 0 S := by
  subst hS
  obtain ⟨o, c, rfl, hs, _⟩ := own_sees h
  rcases h.2 with ⟨_, h0⟩ | ⟨g, cap, cur, e, hg, hh, hn, hcap, hsz, htake⟩
  · omega
  · cases e
    refine ⟨g, _, rfl, by omega, (Array.getElem?_eq_some_iff.1 hh).1, hn, hcap, ?_⟩
    rcases hs with rfl | ⟨b, off, e, hs⟩
    · simp at h1
    · cases e; exact hs
/-- An append onto a row of the call's own, in a region that draws its order. -/
theorem own_stepL {P : Program} {ops : Array Oper} {o : Oper} {a : Act} {w : World} {K : Act → World → Prop} {Q : Exit → Act → World → Prop} {E : Prop} (hg : o.guard = none) (s x : Operand) (t : TypeId)
    (ho : o.op = .call { callee := .builtin .append, args := #[s, x], argTypes := #[t, t] })
    (base : Nat) (e : TypeId) (i : TypeInfo) (z : Value) (size bytes : Nat) (ht : P.underlying t = some (.slice e)) (hi : P.info? e = some i) (hz : i.zero = some z)
    (hsize : i.size = size) (hby : i.bytes = bytes) (hzs : z.cells.size = size) (hsz : 0 < size)
    (v : Value) (n : Nat) (xs : List Value) (hs : a.eval s = v) (hown : w.ownsRow base e size v n xs)
    (ad : Addr) (m c : Nat) (news : List Value) (hx : a.eval x = .slice (some ad) m c) (hl : news.length = m * size) (hnews : ∀ j u, news[j]? = some u → w.cell? (ad.add j) = some u) (h1 : ∀ u ∈ news, u.oneCell' = true)
    (h63 : n + m ≤ maxLen) (hbytes : (n + m) * bytes ≤ 140737488355328) (hbase : base ≤ w.heap.size)
    (h : ∀ v' w', w'.ownsRow base e size v' (n + m) (xs ++ news) → w.grownBy w' v.ownBlock → K (a.put o.dst v') w') :
    if Region.wanted o (yielded ops a.tmps) = true then Oper.wp P o a w K Q else E := by
  rw [if_pos (by simp [Region.wanted, hg])]
  exact wp_append_own w s x t ho base e i z size bytes ht hi hz hsize hby hzs hsz v n xs hs hown ad m c news hx hl hnews h1 h63 hbytes hbase fun v' w' h2 h3 _ => h v' w' h2 h3
theorem below_ownL {w w' : World} (h : w.grownBy w' (Value.slice none 0 0).ownBlock) : Below w.heap.size w w' := ⟨h.os, h.tape, h.output, h.size, fun j hj => h.block j hj (by simp [Value.ownBlock])⟩
theorem cell_keptL {wq wA : World} {x : Lab} (h : (wq.drew.alloc (.cells #[.string x.1, .string x.2] 79)).grownBy wA (Value.slice none 0 0).ownBlock) : ∀ j u, [Value.string x.1, Value.string x.2][j]? = some u → wA.cell? ((⟨wq.heap.size, 0, none⟩ : Addr).add j) = some u := by
  intro j u hj
  have h1 := cells_2 wq.drew (.string x.1) (.string x.2) 79 j u hj
  refine ((below_ownL h).cell (p := (⟨wq.heap.size, 0, none⟩ : Addr).add j) ?_).trans h1
  unfold Addr.add; split <;> simp
theorem own_insL {w0 : Nat} {wq wD : World} {S : List Lab} {i : Nat} {v : Value} (hB : w0 ≤ wq.heap.size) (k : Nat) (x : Lab) (hk : k ≤ i)
    (h : wD.ownsRow wq.heap.size 79 2 v (0 + k + 1 + (i - k)) ([] ++ flatL (S.take k) ++ [.string x.1, .string x.2] ++ flatL (S.drop k))) : wD.ownsRow w0 79 2 v (i + 1) (flatL (insL S x k)) := by
  have e1 : 0 + k + 1 + (i - k) = i + 1 := by omega
  have e2 : [] ++ flatL (S.take k) ++ [.string x.1, .string x.2] ++ flatL (S.drop k) = flatL (insL S x k) := by unfold insL flatL; simp
  rw [e1, e2] at h
  exact own_mono h hB
theorem le_step {S : List Lab} {x y : Lab} {k : Nat} (h : ∀ z ∈ S.take k, nm z < nm x) (hy : S[k]? = some y) (hl : nm y < nm x) : ∀ z ∈ S.take (k + 1), nm z < nm x := by
  have e : S.take (k + 1) = S.take k ++ [y] := by rw [List.take_add_one, hy]; rfl
  intro z hz
  rw [e] at hz
  rcases List.mem_append.1 hz with hz | hz
  · exact h z hz
  · rw [List.mem_singleton.1 hz]; exact hl
/-- What the document's Tidy leaves. -/
def RTidied (B : Nat) (xs : List Lab) (e : Ending) (w' : World) : Prop :=
  (tidyB xs = true ∧ ∃ v, e = .returned (.tuple #[v, .bool true]) ∧ w'.ownsRow B 79 2 v (sortL xs).length (flatL (sortL xs))) ∨ (tidyB xs = false ∧ e = .returned (.tuple #[.slice none 0 0, .bool false]))
end Go.Proofs.Ytldlfmeppcdbbaa
end

section
/- Walks: the document's own Tidy. -/

namespace Go.Proofs.Ytldlfmeppcdbbaa
open Go.RowKit Go.Lib
theorem flatL_cells (xs : List Lab) : ∀ v ∈ flatL xs, v.oneCell' = true := by
  intro v hv
  obtain ⟨x, _, hv⟩ := List.mem_flatMap.1 hv
  simp at hv
  rcases hv with rfl | rfl <;> rfl

set_option maxHeartbeats 16000000 in
set_option maxRecDepth 100000 in
theorem rtidy_any (o : Option Addr) (cap : Nat) (xs : List Lab) (w : World) (hm : xs.length ≤ 1000000) (hS : SeesO w o xs) (hv : ∀ x ∈ xs, x.1.size ≤ 1000 ∧ x.2.size ≤ 1000) :
    Calls Try.prog 34 #[.slice o xs.length cap] w fun e w' => RTidied w.heap.size xs e w' ∧ Below w.heap.size w w' := by
  obtain ⟨i0, hi, hz0, hz1, hz2⟩ := info_parts info38
  obtain ⟨n, hn⟩ : ∃ n, xs.length = n := ⟨_, rfl⟩
  have HN := Lib.hid hn
  rw [hn] at hm ⊢
  clear hn
  have HSO := Lib.hid hS
  have HV := Lib.hid hv
  clear hS hv
  by_cases h8 : n ≤ 8
  · have j8 : ¬ ((8 : Int) < n) := by omega
    have HNM := Lib.hid (fun (x : Lab) (hx : x ∈ xs) (W : World) => rname_any x.1 W (by have := (HV.out x hx).1; omega))
    go_enter Try.func34, Try.ntmps34
    go_wp2
    go_loopw [4, 5] (fun v4 v5 wr => ∃ (i : Nat) (S : List Lab), v5 = .int .i64 i ∧ i ≤ n ∧ (i = 0 → v4 = .slice none 0 0) ∧ Hid (wr.ownsRow w.heap.size 79 2 v4 i (flatL S)) ∧ Hid (Laid S xs i) ∧ Hid (Below w.heap.size w wr)) (fun _ v5 _ => n - (RowKit.intOf v5).toNat)
    case atStart => exact ⟨0, [], rfl, Nat.zero_le _, fun _ => rfl, Lib.hid (World.ownsRow_nil _ _ _ _), Lib.hid (Laid.nil _), Lib.hid (Below.refl _ _)⟩
    case round =>
      obtain ⟨i, S, rfl, hin, hnil, HO, HSS, HB⟩ := hrel
      by_cases hlt : i < n
      · have j1 : (i : Int) < n := by omega
        have j0 : (0 : Int) ≤ i := by omega
        obtain ⟨x, hx⟩ := get_lt HN.out hlt
        obtain ⟨b, off, rfl, _⟩ := (HSO.out.below (Below.refl _ _)).at hx
        have HC := Lib.hid (fun W (h : Below w.heap.size w W) => (show W.cell? ⟨b, off + i * 2, none⟩ = some (.string x.1) ∧ W.cell? ⟨b, off + i * 2 + 1, none⟩ = some (.string x.2) by
          obtain ⟨b', off', e, hc⟩ := (HSO.out.below h).at hx
          cases e; exact ⟨hc.at0 i x hx, hc.at1 i x hx⟩))
        have HX := Lib.hid hx
        have HM := Lib.hid (List.mem_of_getElem? hx)
        have HT := Lib.hid (show xs.take (i + 1) = xs.take i ++ [x] by rw [List.take_add_one, hx]; rfl)
        have c0 := (HC.out _ HB.out).1
        have hxs := HV.out x HM.out
        clear hx
        have CALL : True := trivial
        obtain ⟨wu, rfl⟩ : ∃ wu : World, wu = wr := ⟨_, rfl⟩
        cases hfit : fitsB x.1 x.2 with
        | false =>
          have HD := Lib.hid (unfit HM.out hfit)
          unfold fitsB at hfit
          clear hxs CALL hnil
          cases hq : nameB x.1.data.toList with
          | false =>
            have HN2 := Lib.hid (fun W => (show Calls Try.prog 48 #[.string x.1] W fun e w' => e = .returned (.bool false) ∧ Below W.heap.size W w' by rw [← hq]; exact HNM.out x HM.out W))
            clear hfit hq
            go_wp2_with (go_at_call 48; refine (HN2.out _).mono ?_; rintro e wr ⟨rfl, bq⟩; have HBN := Lib.hid (HB.out.trans (bq.mono HB.out.size)); clear bq HB HO c0)
            go_ret2
            exact ⟨.inr ⟨HD.out, rfl⟩, HBN.out⟩
          | true =>
            have HN2 := Lib.hid (fun W => (show Calls Try.prog 48 #[.string x.1] W fun e w' => e = .returned (.bool true) ∧ Below W.heap.size W w' by rw [← hq]; exact HNM.out x HM.out W))
            rw [hq, Bool.true_and] at hfit
            clear hq
            cases he : x.2.toList.isEmpty with
            | true =>
              clear hfit
              go_wp2_with (go_at_call 48; refine (HN2.out _).mono ?_; rintro e wr ⟨rfl, bq⟩; have HBN := Lib.hid (HB.out.trans (bq.mono HB.out.size)); clear bq HB HO c0; have c1 := (HC.out _ HBN.out).2)
              go_ret2
              exact ⟨.inr ⟨HD.out, rfl⟩, HBN.out⟩
            | false =>
              rw [he] at hfit
              have t3 : (60 : Int) < x.2.size := by
                have : ¬ ((x.2.size : Int) ≤ 60) := by simpa using hfit
                omega
              clear hfit
              go_wp2_with (go_at_call 48; refine (HN2.out _).mono ?_; rintro e wr ⟨rfl, bq⟩; have HBN := Lib.hid (HB.out.trans (bq.mono HB.out.size)); clear bq HB HO c0; have c1 := (HC.out _ HBN.out).2)
              go_ret2
              exact ⟨.inr ⟨HD.out, rfl⟩, HBN.out⟩
        | true =>
          have HF := Lib.hid hfit
          unfold fitsB at hfit
          simp only [Bool.and_eq_true, Bool.not_eq_true', decide_eq_true_eq] at hfit
          obtain ⟨hq, he, ht⟩ := hfit
          have t3 : ¬ ((60 : Int) < x.2.size) := by omega
          have HN2 := Lib.hid (fun W => (show Calls Try.prog 48 #[.string x.1] W fun e w' => e = .returned (.bool true) ∧ Below W.heap.size W w' by rw [← hq]; exact HNM.out x HM.out W))
          clear hq ht hxs CALL
          by_cases hi0 : i = 0
          · subst hi0
            obtain rfl := hnil rfl
            obtain rfl : S = [] := List.length_eq_zero_iff.1 HSS.out.1
            have HC0 := Lib.hid (fun W (h : Below w.heap.size w W) => (show W.cell? ⟨b, off, none⟩ = some (.string x.1) ∧ W.cell? ⟨b, off + 1, none⟩ = some (.string x.2) from HC.out W h))
            have c0' := (HC0.out _ HB.out).1
            clear c0
            go_wp2_with (go_at_call 48; refine (HN2.out _).mono ?_; rintro e wo ⟨rfl, bq⟩; have HBN := Lib.hid (HB.out.trans (bq.mono HB.out.size)); clear bq HB HO c0'; have c1 := (HC0.out _ HBN.out).2)
            clear c1 he
            go_loopw [6] (fun v6 wi => v6 = .int .i64 0 ∧ wi = wo) (fun _ _ => 0)
            case atStart => exact ⟨rfl, rfl⟩
            case round =>
              obtain ⟨rfl, rfl⟩ := hrel
              go_wp2_with fail
              go_quiet (fail)
              go_wp2_with fail
              go_quiet (fail)
              go_wp2
              rename_i nq1
              obtain ⟨wq, hwq⟩ : ∃ wq, (wr.drewN nq1).drewN nq = wq := ⟨_, rfl⟩
              have HB1 := Lib.hid (show Below w.heap.size w wq by rw [← hwq, drewN_two]; exact HBN.out.trans ((Txt.drewN_below wr _).mono HBN.out.size))
              have CX := Lib.hid (fun W (h : Below wq.heap.size wq W) => HC0.out W (HB1.out.trans (h.mono HB1.out.size)))
              have B0 := Lib.hid (show Below wq.heap.size wq wq.drew from (Below.refl _ _).drew)
              have B1 := Lib.hid (show Below wq.heap.size wq (wq.drew.alloc (.cells #[.string x.1, .string x.2] 79)) from B0.out.alloc (Nat.le_refl _) _)
              have cX := CX.out wq.drew B0.out
              have cX1 := CX.out (wq.drew.alloc (.cells #[.string x.1, .string x.2] 79)) B1.out
              have HSE := Lib.hid (HSS.out.step 0 (fun y hy => by simp at hy) (fun y hy => by simp at hy) HF.out HT.out)
              rw [hwq]
              clear hwq
              go_region_held3 (fun w' => w'.cell? ⟨b, off, none⟩ = some (.string x.1) ∧ w'.cell? ⟨b, off + 1, none⟩ = some (.string x.2)) (first | exact cX | exact cX1 | exact cC) (first
                | (refine own_stepL rfl (.tmp 79) (.tmp 84) 38 rfl wq.heap.size 79 i0 (.agg #[.string ⟨#[]⟩, .string ⟨#[]⟩]) 2 32 Try.underlying38 hi hz0 hz1 hz2 rfl (by decide) (.slice none 0 0) 0 [] rfl (World.ownsRow_nil _ _ _ _) ⟨wq.heap.size, 0, none⟩ 1 1 [.string x.1, .string x.2] rfl rfl (cells_2 _ _ _ _) (one_2 _ _) (by unfold maxLen; omega) (by omega) B1.out.size ?_
                   intro v2 wC hoC hgC
                   obtain ⟨g2, c2, rfl, q1, q2, q3, q4, _⟩ := own_posL (S := [x]) hoC rfl (by omega)
                   have HOC := Lib.hid hoC
                   have BC := Lib.hid (B1.out.trans ((below_ownL hgC).mono B1.out.size))
                   have cC := CX.out wC BC.out
                   clear hoC hgC))
              all_goals
                go_wp2
                go_roundw
                case rel => exact ⟨1, insL [] x 0, by go_num, by omega, fun h => by omega, Lib.hid (own_mono HOC.out HB1.out.size), HSE, Lib.hid (HB1.out.trans (BC.out.mono HB1.out.size))⟩
                case measure => simp [RowKit.intOf]; omega
          · obtain ⟨g, sc, rfl, q1, q2, q3, q4, hsee⟩ := own_posL HO.out HSS.out.1 (by omega)
            clear hnil q2
            go_wp2_with (go_at_call 48; refine (HN2.out _).mono ?_; rintro e wo ⟨rfl, bq⟩; have HBN := Lib.hid (HB.out.trans (bq.mono HB.out.size)); have HOo := Lib.hid (own_grown HO.out bq); have HSee := Lib.hid (hsee.below bq); clear bq HB HO c0 hsee; have c1 := (HC.out _ HBN.out).2)
            clear c1 he t3
            go_loopw [6] (fun v6 wi => ∃ k : Nat, v6 = .int .i64 k ∧ k ≤ i ∧ Hid (∀ y ∈ S.take k, nm y < nm x) ∧ Hid (∃ m, wi = wo.drewN m)) (fun v6 _ => i - (RowKit.intOf v6).toNat)
            case atStart => exact ⟨0, rfl, Nat.zero_le _, Lib.hid (fun y hy => by simp at hy), Lib.hid ⟨0, rfl⟩⟩
            case round =>
              obtain ⟨k, rfl, hk, HLE, HW⟩ := hrel
              have k0 : (0 : Int) ≤ k := by omega
              have HWB := Lib.hid (show Below wo.heap.size wo wr by obtain ⟨m, rfl⟩ := HW.out; exact Txt.drewN_below wo m)
              have HBW := Lib.hid (HBN.out.trans (HWB.out.mono HBN.out.size))
              have c2 := (HC.out _ HBW.out).1
              by_cases hki : k < i
              · have j2 : (k : Int) < i := by omega
                obtain ⟨y, hy⟩ := get_lt HSS.out.1 hki
                have c1 : wr.cell? ⟨g, k * 2, none⟩ = some (.string y.1) := by
                  have := (HSee.out.below HWB.out).at0 k y hy
                  rwa [Nat.zero_add] at this
                have HY := Lib.hid hy
                clear hy
                by_cases hyx : nm y < nm x
                · have HL2 := Lib.hid (le_step HLE.out HY.out hyx)
                  have t1 : Op.bytesLess y.1.toList x.1.toList = true := by
                    rw [bytesLess_eq, ByteArray.toList_eq, ByteArray.toList_eq]; exact decide_eq_true hyx
                  clear hyx
                  go_wp2_with fail
                  go_quiet (fail)
                  go_wp2
                  go_roundw
                  case rel => exact ⟨k + 1, by go_num, by omega, HL2, Lib.hid (by obtain ⟨m, rfl⟩ := HW.out; exact ⟨_, drewN_two _ _ _⟩)⟩
                  case measure => simp [RowKit.intOf]; omega
                · have t1 : Op.bytesLess y.1.toList x.1.toList = false := by
                    rw [bytesLess_eq, ByteArray.toList_eq, ByteArray.toList_eq]; exact decide_eq_false hyx
                  by_cases hne : nm y = nm x
                  · have t2 : (y.1.toList == x.1.toList) = true := by
                      rw [ByteArray.toList_eq, ByteArray.toList_eq]; exact beq_iff_eq.2 hne
                    have HD := Lib.hid (twice HX.out (HSS.out.2.2.1.mem_iff.1 (List.mem_of_getElem? HY.out)) hne)
                    clear hyx hne
                    have HZ := Lib.hid (fun a b => (show Below w.heap.size w ((wr.drewN a).drewN b) by rw [drewN_two]; exact HBW.out.trans ((Txt.drewN_below wr _).mono HBW.out.size)))
                    go_wp2_with fail
                    go_quiet (fail)
                    go_wp2_with fail
                    go_quiet (fail)
                    go_wp2
                    go_ret2
                    exact ⟨.inr ⟨HD.out, rfl⟩, HZ.out _ _⟩
                  · have t2 : (y.1.toList == x.1.toList) = false := by
                      rw [ByteArray.toList_eq, ByteArray.toList_eq]; exact beq_eq_false_iff_ne.2 hne
                    have HEX := Lib.hid (show ∀ z, S[k]? = some z → nm x < nm z from fun z hz => by
                      rw [HY.out] at hz; cases hz; exact lt_of_not hyx hne)
                    clear hyx hne
                    go_wp2_with fail
                    go_quiet (fail)
                    go_wp2_with fail
                    go_quiet (fail)
                    go_wp2
                    clear c1 c2 t1 t2
                    rename_i nq1
                    obtain ⟨wq, hwq⟩ : ∃ wq, (wr.drewN nq1).drewN nq = wq := ⟨_, rfl⟩
                    have HQ := Lib.hid (show Below wo.heap.size wo wq by rw [← hwq, drewN_two]; exact HWB.out.trans ((Txt.drewN_below wr _).mono HWB.out.size))
                    have HB1 := Lib.hid (HBN.out.trans (HQ.out.mono HBN.out.size))
                    have HSE := Lib.hid (HSS.out.step k HLE.out HEX.out HF.out HT.out)
                    have HB0 := Lib.hid HB1.out.size
                    have CX := Lib.hid (fun W (h : Below wq.heap.size wq W) => HC.out W (HB1.out.trans (h.mono HB1.out.size)))
                    have B0 := Lib.hid (show Below wq.heap.size wq wq.drew from (Below.refl _ _).drew)
                    have B1 := Lib.hid (show Below wq.heap.size wq (wq.drew.alloc (.cells #[.string x.1, .string x.2] 79)) from B0.out.alloc (Nat.le_refl _) _)
                    have L1 := Lib.hid (show (flatL (S.take k)).length = k * 2 by rw [flatL_len, List.length_take, HSS.out.1]; omega)
                    have L3 := Lib.hid (show (flatL (S.drop k)).length = (i - k) * 2 by have := HSS.out.1; rw [flatL_len, List.length_drop]; omega)
                    have SRC1 := Lib.hid (fun W (h : Below wq.heap.size wq W) => sees_all (((HSee.out.below (HQ.out.trans (h.mono HQ.out.size)))).take k))
                    have cX := CX.out wq.drew B0.out
                    have cX1 := CX.out (wq.drew.alloc (.cells #[.string x.1, .string x.2] 79)) B1.out
                    rw [hwq]
                    clear hwq
                    have k1 : (k : Int) ≤ sc := by omega
                    have k2 : (k : Int) ≤ i := by omega
                    have hcap : ¬ sc = k := by omega
                    have SRC3 := Lib.hid (fun W (h : Below wq.heap.size wq W) => (show ∀ j u, (flatL (S.drop k))[j]? = some u → W.cell? ((⟨g, k * 2, none⟩ : Addr).add j) = some u by
                      have := sees_all ((HSee.out.below (HQ.out.trans (h.mono HQ.out.size))).drop k)
                      rwa [Nat.zero_add] at this))
                    go_region_held3 (fun w' => w'.cell? ⟨b, off + i * 2, none⟩ = some (.string x.1) ∧ w'.cell? ⟨b, off + i * 2 + 1, none⟩ = some (.string x.2)) (first | exact cX | exact cX1 | exact cA | exact cA1 | exact cC | exact cD) (first
                      | (refine own_stepL rfl (.const (.slice none 0 0)) (.tmp 78) 38 rfl wq.heap.size 79 i0 (.agg #[.string ⟨#[]⟩, .string ⟨#[]⟩]) 2 32 Try.underlying38 hi hz0 hz1 hz2 rfl (by decide) (.slice none 0 0) 0 [] rfl (World.ownsRow_nil _ _ _ _) ⟨g, 0, none⟩ k sc (flatL (S.take k)) rfl L1.out (fun j u hj => SRC1.out wq.drew B0.out j u hj) (flatL_cells _) (by unfold maxLen; omega) (by omega) (Nat.le_refl _) ?_
                         intro v1 wA hoA hgA
                         have HOA := Lib.hid hoA
                         have BA := Lib.hid (B0.out.trans ((below_ownL hgA).mono (Nat.le_refl _)))
                         have cA := CX.out wA BA.out
                         have cA1 := CX.out (wA.alloc (.cells #[.string x.1, .string x.2] 79)) (BA.out.alloc BA.out.size _)
                         clear hoA hgA)
                      | (refine own_stepL rfl (.tmp 79) (.tmp 84) 38 rfl wq.heap.size 79 i0 (.agg #[.string ⟨#[]⟩, .string ⟨#[]⟩]) 2 32 Try.underlying38 hi hz0 hz1 hz2 rfl (by decide) v1 _ _ rfl (HOA.out.alloc _) ⟨wA.heap.size, 0, none⟩ 1 1 [.string x.1, .string x.2] rfl rfl (cells_2 _ _ _ _) (one_2 _ _) (by unfold maxLen; omega) (by omega) (Nat.le_trans BA.out.size (by simp)) ?_
                         intro v2 wC hoC hgC
                         have HOC := Lib.hid hoC
                         have BC := Lib.hid (Below.grown (BA.out.alloc BA.out.size _) hgC (Nat.le_trans BA.out.size (by simp)) (fun j hj => (HOA.out.lt j hj).1) : Below wq.heap.size wq wC)
                         have cC := CX.out wC BC.out
                         clear hoC hgC)
                      | (refine own_stepL rfl (.const (.slice none 0 0)) (.tmp 78) 38 rfl wq.heap.size 79 i0 (.agg #[.string ⟨#[]⟩, .string ⟨#[]⟩]) 2 32 Try.underlying38 hi hz0 hz1 hz2 rfl (by decide) (.slice none 0 0) 0 [] rfl (World.ownsRow_nil _ _ _ _) ⟨g, 0, none⟩ k sc (flatL (S.take k)) rfl L1.out (fun j u hj => SRC1.out (wq.drew.alloc (.cells #[.string x.1, .string x.2] 79)) B1.out j u hj) (flatL_cells _) (by unfold maxLen; omega) (by omega) B1.out.size ?_
                         intro v1 wA hoA hgA
                         have HOA := Lib.hid hoA
                         have BA := Lib.hid (B1.out.trans ((below_ownL hgA).mono B1.out.size))
                         have HX2 := Lib.hid (cell_keptL hgA)
                         have cA := CX.out wA BA.out
                         clear hoA hgA)
                      | (refine own_stepL rfl (.tmp 79) (.tmp 84) 38 rfl wq.heap.size 79 i0 (.agg #[.string ⟨#[]⟩, .string ⟨#[]⟩]) 2 32 Try.underlying38 hi hz0 hz1 hz2 rfl (by decide) v1 _ _ rfl HOA.out ⟨wq.heap.size, 0, none⟩ 1 1 [.string x.1, .string x.2] rfl rfl HX2.out (one_2 _ _) (by unfold maxLen; omega) (by omega) BA.out.size ?_
                         intro v2 wC hoC hgC
                         have HOC := Lib.hid hoC
                         have BC := Lib.hid (Below.grown BA.out hgC BA.out.size (fun j hj => (HOA.out.lt j hj).1) : Below wq.heap.size wq wC)
                         have cC := CX.out wC BC.out
                         clear hoC hgC)
                      | (refine own_stepL rfl (.tmp 85) (.tmp 88) 38 rfl wq.heap.size 79 i0 (.agg #[.string ⟨#[]⟩, .string ⟨#[]⟩]) 2 32 Try.underlying38 hi hz0 hz1 hz2 rfl (by decide) v2 _ _ rfl HOC.out ⟨g, k * 2, none⟩ (i - k) (sc - k) (flatL (S.drop k)) rfl L3.out (fun j u hj => SRC3.out wC BC.out j u hj) (flatL_cells _) (by unfold maxLen; omega) (by omega) BC.out.size ?_
                         intro v3 wD hoD hgD
                         have HOD := Lib.hid hoD
                         have BD := Lib.hid (Below.grown BC.out hgD BC.out.size (fun j hj => (HOC.out.lt j hj).1) : Below wq.heap.size wq wD)
                         have cD := CX.out wD BD.out
                         clear hoD hgD))
                    all_goals
                      have HOE := Lib.hid (own_insL HB0.out k x (by omega) HOD.out)
                      have HBE := Lib.hid (HB1.out.trans (BD.out.mono HB1.out.size))
                      go_wp2
                      go_roundw
                      case rel => exact ⟨i + 1, insL S x k, by go_num, by omega, fun h => by omega, HOE, HSE, HBE⟩
                      case measure => simp [RowKit.intOf]; omega
              · obtain rfl : k = i := by omega
                have j2 : ¬ (k : Int) < k := by omega
                have HEX := Lib.hid (show ∀ z, S[k]? = some z → nm x < nm z from fun z hz => by
                  have := (List.getElem?_eq_some_iff.1 hz).1; rw [HSS.out.1] at this; omega)
                go_wp2_with fail
                go_quiet (fail)
                go_wp2_with fail
                go_quiet (fail)
                go_wp2
                clear c2
                rename_i nq1
                obtain ⟨wq, hwq⟩ : ∃ wq, (wr.drewN nq1).drewN nq = wq := ⟨_, rfl⟩
                have HQ := Lib.hid (show Below wo.heap.size wo wq by rw [← hwq, drewN_two]; exact HWB.out.trans ((Txt.drewN_below wr _).mono HWB.out.size))
                have HB1 := Lib.hid (HBN.out.trans (HQ.out.mono HBN.out.size))
                have HSE := Lib.hid (HSS.out.step k HLE.out HEX.out HF.out HT.out)
                have HB0 := Lib.hid HB1.out.size
                have CX := Lib.hid (fun W (h : Below wq.heap.size wq W) => HC.out W (HB1.out.trans (h.mono HB1.out.size)))
                have B0 := Lib.hid (show Below wq.heap.size wq wq.drew from (Below.refl _ _).drew)
                have B1 := Lib.hid (show Below wq.heap.size wq (wq.drew.alloc (.cells #[.string x.1, .string x.2] 79)) from B0.out.alloc (Nat.le_refl _) _)
                have L1 := Lib.hid (show (flatL (S.take k)).length = k * 2 by rw [flatL_len, List.length_take, HSS.out.1]; omega)
                have L3 := Lib.hid (show (flatL (S.drop k)).length = 0 * 2 by have := HSS.out.1; rw [flatL_len, List.length_drop]; omega)
                have SRC1 := Lib.hid (fun W (h : Below wq.heap.size wq W) => sees_all (((HSee.out.below (HQ.out.trans (h.mono HQ.out.size)))).take k))
                have cX := CX.out wq.drew B0.out
                have cX1 := CX.out (wq.drew.alloc (.cells #[.string x.1, .string x.2] 79)) B1.out
                rw [hwq]
                clear hwq
                have k1 : (k : Int) ≤ sc := by omega
                have k2 : (k : Int) ≤ k := by omega
                by_cases hcap : sc = k
                · have SRC3 := Lib.hid (fun W (_ : Below wq.heap.size wq W) => (show ∀ j u, (flatL (S.drop k))[j]? = some u → W.cell? ((⟨g, 0, none⟩ : Addr).add j) = some u from fun j u hj => by
                    rw [List.drop_eq_nil_of_le (by rw [HSS.out.1]; omega)] at hj; simp [flatL] at hj))
                  obtain rfl : k = sc := hcap.symm
                  go_region_held3 (fun w' => w'.cell? ⟨b, off + k * 2, none⟩ = some (.string x.1) ∧ w'.cell? ⟨b, off + k * 2 + 1, none⟩ = some (.string x.2)) (first | exact cX | exact cX1 | exact cA | exact cA1 | exact cC | exact cD) (first
                    | (refine own_stepL rfl (.const (.slice none 0 0)) (.tmp 78) 38 rfl wq.heap.size 79 i0 (.agg #[.string ⟨#[]⟩, .string ⟨#[]⟩]) 2 32 Try.underlying38 hi hz0 hz1 hz2 rfl (by decide) (.slice none 0 0) 0 [] rfl (World.ownsRow_nil _ _ _ _) ⟨g, 0, none⟩ k k (flatL (S.take k)) rfl L1.out (fun j u hj => SRC1.out wq.drew B0.out j u hj) (flatL_cells _) (by unfold maxLen; omega) (by omega) (Nat.le_refl _) ?_
                       intro v1 wA hoA hgA
                       have HOA := Lib.hid hoA
                       have BA := Lib.hid (B0.out.trans ((below_ownL hgA).mono (Nat.le_refl _)))
                       have cA := CX.out wA BA.out
                       have cA1 := CX.out (wA.alloc (.cells #[.string x.1, .string x.2] 79)) (BA.out.alloc BA.out.size _)
                       clear hoA hgA)
                    | (refine own_stepL rfl (.tmp 79) (.tmp 84) 38 rfl wq.heap.size 79 i0 (.agg #[.string ⟨#[]⟩, .string ⟨#[]⟩]) 2 32 Try.underlying38 hi hz0 hz1 hz2 rfl (by decide) v1 _ _ rfl (HOA.out.alloc _) ⟨wA.heap.size, 0, none⟩ 1 1 [.string x.1, .string x.2] rfl rfl (cells_2 _ _ _ _) (one_2 _ _) (by unfold maxLen; omega) (by omega) (Nat.le_trans BA.out.size (by simp)) ?_
                       intro v2 wC hoC hgC
                       have HOC := Lib.hid hoC
                       have BC := Lib.hid (Below.grown (BA.out.alloc BA.out.size _) hgC (Nat.le_trans BA.out.size (by simp)) (fun j hj => (HOA.out.lt j hj).1) : Below wq.heap.size wq wC)
                       have cC := CX.out wC BC.out
                       clear hoC hgC)
                    | (refine own_stepL rfl (.const (.slice none 0 0)) (.tmp 78) 38 rfl wq.heap.size 79 i0 (.agg #[.string ⟨#[]⟩, .string ⟨#[]⟩]) 2 32 Try.underlying38 hi hz0 hz1 hz2 rfl (by decide) (.slice none 0 0) 0 [] rfl (World.ownsRow_nil _ _ _ _) ⟨g, 0, none⟩ k k (flatL (S.take k)) rfl L1.out (fun j u hj => SRC1.out (wq.drew.alloc (.cells #[.string x.1, .string x.2] 79)) B1.out j u hj) (flatL_cells _) (by unfold maxLen; omega) (by omega) B1.out.size ?_
                       intro v1 wA hoA hgA
                       have HOA := Lib.hid hoA
                       have BA := Lib.hid (B1.out.trans ((below_ownL hgA).mono B1.out.size))
                       have HX2 := Lib.hid (cell_keptL hgA)
                       have cA := CX.out wA BA.out
                       clear hoA hgA)
                    | (refine own_stepL rfl (.tmp 79) (.tmp 84) 38 rfl wq.heap.size 79 i0 (.agg #[.string ⟨#[]⟩, .string ⟨#[]⟩]) 2 32 Try.underlying38 hi hz0 hz1 hz2 rfl (by decide) v1 _ _ rfl HOA.out ⟨wq.heap.size, 0, none⟩ 1 1 [.string x.1, .string x.2] rfl rfl HX2.out (one_2 _ _) (by unfold maxLen; omega) (by omega) BA.out.size ?_
                       intro v2 wC hoC hgC
                       have HOC := Lib.hid hoC
                       have BC := Lib.hid (Below.grown BA.out hgC BA.out.size (fun j hj => (HOA.out.lt j hj).1) : Below wq.heap.size wq wC)
                       have cC := CX.out wC BC.out
                       clear hoC hgC)
                    | (refine own_stepL rfl (.tmp 85) (.tmp 88) 38 rfl wq.heap.size 79 i0 (.agg #[.string ⟨#[]⟩, .string ⟨#[]⟩]) 2 32 Try.underlying38 hi hz0 hz1 hz2 rfl (by decide) v2 _ _ rfl HOC.out ⟨g, 0, none⟩ 0 0 (flatL (S.drop k)) rfl L3.out (fun j u hj => SRC3.out wC BC.out j u hj) (flatL_cells _) (by unfold maxLen; omega) (by omega) BC.out.size ?_
                       intro v3 wD hoD hgD
                       have HOD := Lib.hid hoD
                       have BD := Lib.hid (Below.grown BC.out hgD BC.out.size (fun j hj => (HOC.out.lt j hj).1) : Below wq.heap.size wq wD)
                       have cD := CX.out wD BD.out
                       clear hoD hgD))
                  all_goals
                    have HOE := Lib.hid (own_insL HB0.out k x (by omega) (by rw [Nat.sub_self]; exact HOD.out))
                    have HBE := Lib.hid (HB1.out.trans (BD.out.mono HB1.out.size))
                    go_wp2
                    go_roundw
                    case rel => exact ⟨k + 1, insL S x k, by go_num, by omega, fun h => by omega, HOE, HSE, HBE⟩
                    case measure => simp [RowKit.intOf]; omega
                · have SRC3 := Lib.hid (fun W (h : Below wq.heap.size wq W) => (show ∀ j u, (flatL (S.drop k))[j]? = some u → W.cell? ((⟨g, k * 2, none⟩ : Addr).add j) = some u by
                    have := sees_all ((HSee.out.below (HQ.out.trans (h.mono HQ.out.size))).drop k)
                    rwa [Nat.zero_add] at this))
                  go_region_held3 (fun w' => w'.cell? ⟨b, off + k * 2, none⟩ = some (.string x.1) ∧ w'.cell? ⟨b, off + k * 2 + 1, none⟩ = some (.string x.2)) (first | exact cX | exact cX1 | exact cA | exact cA1 | exact cC | exact cD) (first
                    | (refine own_stepL rfl (.const (.slice none 0 0)) (.tmp 78) 38 rfl wq.heap.size 79 i0 (.agg #[.string ⟨#[]⟩, .string ⟨#[]⟩]) 2 32 Try.underlying38 hi hz0 hz1 hz2 rfl (by decide) (.slice none 0 0) 0 [] rfl (World.ownsRow_nil _ _ _ _) ⟨g, 0, none⟩ k sc (flatL (S.take k)) rfl L1.out (fun j u hj => SRC1.out wq.drew B0.out j u hj) (flatL_cells _) (by unfold maxLen; omega) (by omega) (Nat.le_refl _) ?_
                       intro v1 wA hoA hgA
                       have HOA := Lib.hid hoA
                       have BA := Lib.hid (B0.out.trans ((below_ownL hgA).mono (Nat.le_refl _)))
                       have cA := CX.out wA BA.out
                       have cA1 := CX.out (wA.alloc (.cells #[.string x.1, .string x.2] 79)) (BA.out.alloc BA.out.size _)
                       clear hoA hgA)
                    | (refine own_stepL rfl (.tmp 79) (.tmp 84) 38 rfl wq.heap.size 79 i0 (.agg #[.string ⟨#[]⟩, .string ⟨#[]⟩]) 2 32 Try.underlying38 hi hz0 hz1 hz2 rfl (by decide) v1 _ _ rfl (HOA.out.alloc _) ⟨wA.heap.size, 0, none⟩ 1 1 [.string x.1, .string x.2] rfl rfl (cells_2 _ _ _ _) (one_2 _ _) (by unfold maxLen; omega) (by omega) (Nat.le_trans BA.out.size (by simp)) ?_
                       intro v2 wC hoC hgC
                       have HOC := Lib.hid hoC
                       have BC := Lib.hid (Below.grown (BA.out.alloc BA.out.size _) hgC (Nat.le_trans BA.out.size (by simp)) (fun j hj => (HOA.out.lt j hj).1) : Below wq.heap.size wq wC)
                       have cC := CX.out wC BC.out
                       clear hoC hgC)
                    | (refine own_stepL rfl (.const (.slice none 0 0)) (.tmp 78) 38 rfl wq.heap.size 79 i0 (.agg #[.string ⟨#[]⟩, .string ⟨#[]⟩]) 2 32 Try.underlying38 hi hz0 hz1 hz2 rfl (by decide) (.slice none 0 0) 0 [] rfl (World.ownsRow_nil _ _ _ _) ⟨g, 0, none⟩ k sc (flatL (S.take k)) rfl L1.out (fun j u hj => SRC1.out (wq.drew.alloc (.cells #[.string x.1, .string x.2] 79)) B1.out j u hj) (flatL_cells _) (by unfold maxLen; omega) (by omega) B1.out.size ?_
                       intro v1 wA hoA hgA
                       have HOA := Lib.hid hoA
                       have BA := Lib.hid (B1.out.trans ((below_ownL hgA).mono B1.out.size))
                       have HX2 := Lib.hid (cell_keptL hgA)
                       have cA := CX.out wA BA.out
                       clear hoA hgA)
                    | (refine own_stepL rfl (.tmp 79) (.tmp 84) 38 rfl wq.heap.size 79 i0 (.agg #[.string ⟨#[]⟩, .string ⟨#[]⟩]) 2 32 Try.underlying38 hi hz0 hz1 hz2 rfl (by decide) v1 _ _ rfl HOA.out ⟨wq.heap.size, 0, none⟩ 1 1 [.string x.1, .string x.2] rfl rfl HX2.out (one_2 _ _) (by unfold maxLen; omega) (by omega) BA.out.size ?_
                       intro v2 wC hoC hgC
                       have HOC := Lib.hid hoC
                       have BC := Lib.hid (Below.grown BA.out hgC BA.out.size (fun j hj => (HOA.out.lt j hj).1) : Below wq.heap.size wq wC)
                       have cC := CX.out wC BC.out
                       clear hoC hgC)
                    | (refine own_stepL rfl (.tmp 85) (.tmp 88) 38 rfl wq.heap.size 79 i0 (.agg #[.string ⟨#[]⟩, .string ⟨#[]⟩]) 2 32 Try.underlying38 hi hz0 hz1 hz2 rfl (by decide) v2 _ _ rfl HOC.out ⟨g, k * 2, none⟩ 0 (sc - k) (flatL (S.drop k)) rfl L3.out (fun j u hj => SRC3.out wC BC.out j u hj) (flatL_cells _) (by unfold maxLen; omega) (by omega) BC.out.size ?_
                       intro v3 wD hoD hgD
                       have HOD := Lib.hid hoD
                       have BD := Lib.hid (Below.grown BC.out hgD BC.out.size (fun j hj => (HOC.out.lt j hj).1) : Below wq.heap.size wq wD)
                       have cD := CX.out wD BD.out
                       clear hoD hgD))
                  all_goals
                    have HOE := Lib.hid (own_insL HB0.out k x (by omega) (by rw [Nat.sub_self]; exact HOD.out))
                    have HBE := Lib.hid (HB1.out.trans (BD.out.mono HB1.out.size))
                    go_wp2
                    go_roundw
                    case rel => exact ⟨k + 1, insL S x k, by go_num, by omega, fun h => by omega, HOE, HSE, HBE⟩
                    case measure => simp [RowKit.intOf]; omega
      · obtain rfl : i = n := by omega
        have j1 : ¬ ((i : Int) < i) := by omega
        obtain ⟨d1, d2⟩ := HSS.out.done HN.out h8
        have HD := Lib.hid d1
        have HD2 := Lib.hid d2
        clear d1 d2 hnil
        go_wp2
        go_ret2
        exact ⟨.inl ⟨HD.out, _, rfl, by rw [← HD2.out, HSS.out.1]; exact HO.out⟩, HB.out⟩
  · have j8 : (8 : Int) < n := by omega
    have HD := Lib.hid (tidy_len (xs := xs) (by rw [HN.out]; omega))
    go_enter Try.func34, Try.ntmps34
    go_wp2
    go_ret2
    exact ⟨.inr ⟨HD.out, rfl⟩, Below.refl _ _⟩
end Go.Proofs.Ytldlfmeppcdbbaa
end

section
/- Walks: the document's own Right; both Tidys in one form. -/

namespace Go.Proofs.Ytldlfmeppcdbbaa
open Go.RowKit Go.Lib

theorem right_tidy {xs : List Lab} (h : rightB xs = true) : tidyB xs = true ∧ sortL xs = xs := by
  obtain ⟨a, b⟩ := sorted_right (List.Perm.refl xs) (right_sorted h)
  exact ⟨by rw [← b]; exact h, (a h).symm⟩
/-- What a Tidy leaves. -/
def tidyT (xs : List Lab) : List Lab := if tidyB xs = true then sortL xs else []
theorem tidyT_len (xs : List Lab) : (tidyT xs).length ≤ xs.length := by
  unfold tidyT; split
  · rw [(sortL_perm xs).length_eq]; exact Nat.le_refl _
  · exact Nat.zero_le _
theorem rtidy_form (o : Option Addr) (cap : Nat) (xs : List Lab) (w : World) (hm : xs.length ≤ 1000000) (hS : SeesO w o xs) (hv : ∀ x ∈ xs, x.1.size ≤ 1000 ∧ x.2.size ≤ 1000) :
    Calls Try.prog 34 #[.slice o xs.length cap] w fun e w' => (∃ o2 c2, e = .returned (.tuple #[.slice o2 (tidyT xs).length c2, .bool (tidyB xs)]) ∧ SeesO w' o2 (tidyT xs)) ∧ Below w.heap.size w w' := by
  refine (rtidy_any o cap xs w hm hS hv).mono ?_
  rintro e w' ⟨h, hb⟩
  refine ⟨?_, hb⟩
  rcases h with ⟨ht, v, rfl, hown⟩ | ⟨ht, rfl⟩
  · obtain ⟨o2, c2, rfl, hs, _⟩ := own_sees hown
    have e1 : tidyT xs = sortL xs := if_pos ht
    rw [e1, ht]
    exact ⟨o2, c2, rfl, hs⟩
  · have e1 : tidyT xs = [] := if_neg (by rw [ht]; exact fun h => by cases h)
    rw [e1, ht]
    exact ⟨none, 0, rfl, .inl rfl⟩

set_option maxHeartbeats 4000000 in
set_option maxRecDepth 100000 in
theorem rright_any (o : Option Addr) (cap : Nat) (xs : List Lab) (w : World) (hm : xs.length ≤ 1000000) (hS : SeesO w o xs) (hv : ∀ x ∈ xs, x.1.size ≤ 1000 ∧ x.2.size ≤ 1000) :
    Calls Try.prog 49 #[.slice o xs.length cap] w fun e w' => e = .returned (.bool (rightB xs)) ∧ Below w.heap.size w w' := by
  obtain ⟨n, hn⟩ : ∃ n, xs.length = n := ⟨_, rfl⟩
  have HTI := Lib.hid (rtidy_form o cap xs w hm hS hv)
  have HCO := Lib.hid (fun W (h : Below w.heap.size w W) (o2 : Option Addr) (c2 : Nat) (h2 : SeesO W o2 (tidyT xs)) => rcompare_any o2 o c2 cap (tidyT xs) xs W (by have := tidyT_len xs; unfold maxLen; omega) (by unfold maxLen; omega) h2 (hS.below h))
  have hR : rightB xs = (tidyB xs && (cmpL (tidyT xs) xs == 0)) := by
    rw [Bool.eq_iff_iff, Bool.and_eq_true, beq_iff_eq, cmpL_zero]
    constructor
    · intro h
      obtain ⟨a, b⟩ := right_tidy h
      exact ⟨a, by unfold tidyT; rw [if_pos a]; exact b⟩
    · rintro ⟨a, b⟩
      unfold tidyT at b
      rw [if_pos a] at b
      rw [← b]; exact a
  rw [hn] at HTI HCO hm ⊢
  rw [hR]
  obtain ⟨q, hq⟩ : ∃ q, tidyB xs = q := ⟨_, rfl⟩
  obtain ⟨m, hm2⟩ : ∃ m, (tidyT xs).length = m := ⟨_, rfl⟩
  obtain ⟨z, hz⟩ : ∃ z, cmpL (tidyT xs) xs = z := ⟨_, rfl⟩
  rw [hq, hm2] at HTI
  rw [hz, hm2] at HCO
  rw [hq, hz]
  clear hq hz hR hS hv
  cases q with
  | true =>
    go_enter Try.func49, Try.ntmps49
    go_wp2_with fail
    refine HTI.out.mono ?_
    rintro e w1 ⟨⟨o2, c2, rfl, hs2⟩, b1⟩
    have HB1 := Lib.hid b1
    have HC2 := Lib.hid (HCO.out w1 b1 o2 c2 hs2)
    clear hs2 b1
    go_wp2_with fail
    refine HC2.out.mono ?_
    rintro e w2 ⟨rfl, b2⟩
    have HB2 := Lib.hid (HB1.out.trans (b2.mono HB1.out.size))
    clear b2
    go_wp2
    go_ret
    exact ⟨by first | rfl | simp, HB2.out⟩
  | false =>
    go_enter Try.func49, Try.ntmps49
    go_wp2_with fail
    refine HTI.out.mono ?_
    rintro e w1 ⟨⟨o2, c2, rfl, hs2⟩, b1⟩
    have HB1 := Lib.hid b1
    clear b1 hs2
    go_wp2
    go_ret
    exact ⟨by first | rfl | simp, HB1.out⟩
end Go.Proofs.Ytldlfmeppcdbbaa
end
