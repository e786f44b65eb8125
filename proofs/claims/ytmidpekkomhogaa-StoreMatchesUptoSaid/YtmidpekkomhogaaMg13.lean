import Derived.Test.YtmidpekkomhogaaMg03
import Derived.WalkLawsBesides
import Derived.Test.YtmidpekkomhogaaMg06
import Derived.Laws.OwnMore
import Derived.Deep.DeepMust
import Derived.BigQuiet
import Derived.Deep.QuietTactic
section
/- Labels: brought into order, plain. -/

namespace Go.Proofs.Ytmidpekkomhogaa
open Go.RowKit Go.Lib Go.Sort

abbrev nm (x : Lab) : List UInt8 := x.1.data.toList
end Go.Proofs.Ytmidpekkomhogaa
end

section
/- Walks: the document's own Get and Compare. -/

namespace Go.Proofs.Ytmidpekkomhogaa
open Go.RowKit Go.Lib

end Go.Proofs.Ytmidpekkomhogaa
end

section
/- Walks: the document's own Spell, Kind and Name. -/

namespace Go.Proofs.Ytmidpekkomhogaa
open Go.RowKit

/-- A slice that the call owns, opened: its value and where its cells lie. -/
theorem own_open {B e n : Nat} {v : Value} {xs : List Value} {w : World} (h : w.ownsRow B e 1 v n xs) : (v = .slice none 0 0 ∧ n = 0 ∧ xs = []) ∨ ∃ g cap, v = .slice (some ⟨g, 0, none⟩) n cap ∧ B ≤ g ∧ g < w.heap.size ∧ n ≤ cap ∧ cap ≤ maxLen ∧ ∀ j u, xs[j]? = some u → w.cell? ⟨g, j, none⟩ = some u := by
  have hl := h.1
  rcases h.2 with ⟨rfl, h0⟩ | ⟨g, cap, cur, rfl, hg, hh, hn, hcap, hsz, htake⟩
  · subst h0
    exact .inl ⟨rfl, rfl, List.eq_nil_of_length_eq_zero (by simpa using hl)⟩
  · refine .inr ⟨g, cap, rfl, hg, (Array.getElem?_eq_some_iff.1 hh).1, hn, hcap, fun j u hu => ?_⟩
    have hj : j < xs.length := (List.getElem?_eq_some_iff.1 hu).1
    rw [h.cellAt j (by omega), hu]

set_option maxHeartbeats 2000000 in
set_option maxRecDepth 100000 in
theorem rspell_any (s : ByteArray) (w : World) (hs : s.size ≤ 1099511627776) :
    Calls Try.prog 12 #[.string s] w fun e w' => Spelt (w.heap.size + 1) (spell s.data.toList) e w' ∧ Below w.heap.size w w' := by
  obtain ⟨i0, hi, hz0, hz1, hz2⟩ := info_parts tryd_info21
  go_enter Try.func12, Try.ntmps12
  go_wp2
  go_loopw [3] (fun v wr => ∃ (pos : Nat) (xs : List Int), wr.heap[w.heap.size]? = some (.stringIter s pos) ∧ wr.ownsRow (w.heap.size + 1) 21 1 v xs.length (xs.map (Value.int .i32)) ∧ Below w.heap.size w wr ∧ Hid (xs ++ spell (s.data.toList.drop pos) = spell s.data.toList) ∧ xs.length ≤ pos ∧ pos ≤ s.size) (fun _ wr => s.size - wr.iterPos w.heap.size)
  case atStart => exact ⟨0, [], World.iter_heap w s 0, World.ownsRow_nil _ _ _ _, (Below.refl _ _).alloc (Nat.le_refl _) _, (by show _ = _; simp), by simp, Nat.zero_le _⟩
  case round =>
    obtain ⟨pos, xs, hit, hown, hbw, H, hk, hps⟩ := hrel
    have hpos0 := iterPos_of hit
    by_cases hp : pos < s.size
    · have hnx : ∀ ty, (Instr.next (.pointer (some ⟨w.heap.size, 0, none⟩)) true ty).run Try.prog wr = _ := fun ty => Lib.run_next_any_at wr w.heap.size s pos ty hit hp
      have hwd := width1 s pos
      have hwl := width_le hp
      have hit2 := Lib.iterAt_heap wr w.heap.size s pos (pos + (Utf8.decode s pos).2) hit
      have hbw2 := Lib.below_iterAt hbw (k := w.heap.size) (Nat.le_refl _) s (pos + (Utf8.decode s pos).2)
      have hown2 := ownsRow_iterAt hown (k := w.heap.size) (by omega) s (pos + (Utf8.decode s pos).2)
      have H2 : Hid ((xs ++ [((Utf8.decode s pos).1 : Int)]) ++ spell (s.data.toList.drop (pos + (Utf8.decode s pos).2)) = spell s.data.toList) := by
        show _ = _
        rw [← H.out, spell_at hp]; simp
      obtain ⟨W1, hW1⟩ : ∃ W1, W1 = wr.iterAt w.heap.size s (pos + (Utf8.decode s pos).2) := ⟨_, rfl⟩
      rw [← hW1] at hnx hit2 hbw2 hown2
      have hBlt : w.heap.size < W1.heap.size := (Array.getElem?_eq_some_iff.1 hit2).1
      clear hW1 hit hown hbw H
      go_wp2_with (at_builtin; go_must (refine wpList_append_own _ rfl _ _ 44 rfl (w.heap.size + 1) 21 i0 (.int .i32 0) 1 4 Try.underlying44 hi hz0 hz1 hz2 rfl (by decide) _ _ _ rfl (hown2.alloc _) ⟨W1.heap.size, 0, none⟩ 1 1 [.int .i32 ((Utf8.decode s pos).1 : Int)] rfl rfl (cell_1 _ _ _) (one_i32 _) (by unfold maxLen; omega) (by omega) (by simp; omega) ?_); intro v' w3 hown' hgrow3 hnil3)
      have hit3 : w3.heap[w.heap.size]? = some (.stringIter s (pos + (Utf8.decode s pos).2)) := by
        rw [hgrow3.block w.heap.size (by simp; omega) (fun h => by have := (hown2.lt _ h.symm).1; omega), Below.heap_alloc _ _ _ hBlt]; exact hit2
      have hbw3 : Below w.heap.size w w3 := Below.grown (hbw2.alloc (by omega) _) hgrow3 (by simp; omega) (fun j hj => by have := (hown2.lt _ hj).1; omega)
      have ho3 : w3.ownsRow (w.heap.size + 1) 21 1 v' (xs ++ [((Utf8.decode s pos).1 : Int)]).length ((xs ++ [((Utf8.decode s pos).1 : Int)]).map (Value.int .i32)) := by
        rw [List.length_append, List.map_append]; exact hown'
      clear hown' hgrow3 hnil3
      go_roundw
      case rel => exact ⟨pos + (Utf8.decode s pos).2, xs ++ [((Utf8.decode s pos).1 : Int)], hit3, ho3, hbw3, H2, by rw [List.length_append]; simp; omega, hwl⟩
      case measure => rw [iterPos_of hit3, hpos0]; omega
    · have hnx : ∀ ty, (Instr.next (.pointer (some ⟨w.heap.size, 0, none⟩)) true ty).run Try.prog wr = _ := fun ty => Lib.run_next_end_at wr w.heap.size s pos ty hit hp
      have H2 : Hid (xs = spell s.data.toList) := by
        show _ = _
        rw [← H.out, spell_end hp]; simp
      clear H
      go_wp2
      go_ret
      refine ⟨?_, hbw⟩
      rw [← H2.out]
      exact ⟨_, rfl, hown⟩

set_option maxHeartbeats 4000000 in
set_option maxRecDepth 100000 in
theorem rkind_any (r : Int) (w : World) : Calls Try.prog 26 #[.int .i32 r] w fun e w' => e = .returned (.int .i64 (kindZ r)) ∧ w = w' := by
  go_enter Try.func26, Try.ntmps26
  go_wp2
  all_goals (go_ret; refine ⟨ret_int ?_, rfl⟩; first | rfl | skip)
  all_goals ((try simp only [beq_iff_eq, beq_eq_false_iff_ne] at *); unfold kindZ; repeat' split)
  all_goals omega

theorem nameGo_long : ∀ (xs : List Int) (n : Nat), n ≤ 30 → 30 < n + xs.length → nameGo n xs = false
  | [], n, h, h2 => by simp at h2; omega
  | x :: xs, n, h, h2 => by
    unfold nameGo
    split
    · rfl
    · next hn =>
      have : n ≠ 30 := fun e => hn (.inl e)
      exact nameGo_long xs (n + 1) (by omega) (by simp at h2; omega)

set_option maxHeartbeats 4000000 in
set_option maxRecDepth 100000 in
theorem rname_any (s : ByteArray) (w : World) (hs : s.size ≤ 1099511627776) : Calls Try.prog 11 #[.string s] w fun e w' => e = .returned (.bool (nameB s.data.toList)) ∧ Below w.heap.size w w' := by
  have CK := Lib.hid (fun r W => rkind_any r W)
  go_enter Try.func11, Try.ntmps11
  go_wp2_with fail
  refine (rspell_any s _ hs).mono ?_
  rintro e w1 ⟨⟨v, rfl, hown⟩, hb1⟩
  obtain ⟨xs, hxs⟩ : ∃ xs, xs = spell s.data.toList := ⟨_, rfl⟩
  have HX := Lib.hid (show nameGo 0 xs = nameB s.data.toList by rw [hxs]; rfl)
  rw [← hxs] at hown
  clear hxs
  have HB := Lib.hid hb1
  obtain ⟨n, hn⟩ : ∃ n, xs.length = n := ⟨_, rfl⟩
  have HN := Lib.hid hn
  rw [hn] at hown
  clear hn hb1
  rcases own_open hown with ⟨rfl, h0, _⟩ | ⟨g, cap, rfl, _, _, hcap, hmax, hcell⟩
  · subst h0
    have h0 : xs = [] := List.eq_nil_of_length_eq_zero HN.out
    have HR := Lib.hid (show false = nameB s.data.toList by rw [← HX.out, h0]; rfl)
    clear h0 hown
    go_wp2
    go_ret
    exact ⟨ret_bool HR.out, HB.out⟩
  · unfold maxLen at hmax
    by_cases hlo : n < 1
    · have h0 : xs = [] := List.eq_nil_of_length_eq_zero (by rw [HN.out]; omega)
      have HR := Lib.hid (show false = nameB s.data.toList by rw [← HX.out, h0]; rfl)
      have i1 : (n : Int) < 1 := by omega
      have t1 : decide ((n : Int) < 1) = true := by simpa using i1
      clear h0 hown hcell
      go_wp2
      go_ret
      exact ⟨ret_bool HR.out, HB.out⟩
    · have i1 : (1 : Int) ≤ n := by omega
      have t1 : decide ((n : Int) < 1) = false := by simp; omega
      by_cases hhi : 30 < n
      · have HR := Lib.hid (show false = nameB s.data.toList by rw [← HX.out, nameGo_long xs 0 (by omega) (by rw [HN.out]; omega)])
        have i2 : (30 : Int) < n := by omega
        have t2 : decide ((30 : Int) < n) = true := by simpa using i2
        clear hown hcell
        go_wp2
        go_ret
        exact ⟨ret_bool HR.out, HB.out⟩
      · have i2 : (n : Int) ≤ 30 := by omega
        have t2 : decide ((30 : Int) < n) = false := by simp; omega
        have hx0 : ∀ k, k < n → xs[k]? = some (xs.getD k 0) := fun k hk => by have := HN.out; simp [List.getD, show k < xs.length by omega]
        have hcx : ∀ k, k < n → w1.cell? ⟨g, k, none⟩ = some (.int .i32 (xs.getD k 0)) := fun k hk => hcell k _ (by rw [List.getElem?_map, hx0 k hk]; rfl)
        have HCX := Lib.hid hcx
        have HX0 := Lib.hid hx0
        have c0 := hcx 0 (by omega)
        have hdrop : ∀ k, k < n → xs.drop k = xs.getD k 0 :: xs.drop (k + 1) := fun k hk => by
          have := HN.out
          rw [List.drop_eq_getElem_cons (by omega)]; simp [List.getD, show k < xs.length by omega]
        have HD := Lib.hid hdrop
        clear hown hcell hx0 hcx hdrop
        by_cases hk1 : kindZ (xs.getD 0 0) = 1
        · have HK1 := Lib.hid hk1
          have t3 : (kindZ (xs.getD 0 0) != 1) = false := by rw [hk1]; rfl
          obtain ⟨x0, hx0⟩ : ∃ x0, x0 = xs.getD 0 0 := ⟨_, rfl⟩
          rw [← hx0] at c0 t3
          clear hk1 hx0
          go_wp2_with fail
          refine (CK.out _ _).mono ?_
          rintro e w2 ⟨rfl, rfl⟩
          go_wp2
          go_loopw [4] (fun vi wr => ∃ k : Nat, vi = .int .i64 k ∧ wr = w1 ∧ k ≤ n ∧ Hid (nameGo k (xs.drop k) = nameB s.data.toList)) (fun vi _ => n - (Go.RowKit.intOf vi).toNat)
          case atStart => exact ⟨0, rfl, rfl, Nat.zero_le _, by show _ = _; rw [List.drop_zero]; exact HX.out⟩
          case round =>
            obtain ⟨k, rfl, rfl, hk, H⟩ := hrel
            by_cases hkn : k < n
            · have j1 : (k : Int) < n := by omega
              have ck := HCX.out k hkn
              have hd := HD.out k hkn
              have h0 := H.out
              rw [hd] at h0
              have hz0 : k = 0 → kindZ (xs.getD k 0) = 1 := fun e => by rw [e]; exact HK1.out
              generalize xs.getD k 0 = x at ck h0 hz0
              by_cases hx1 : kindZ x = 1
              · have H2 : Hid (nameGo (k + 1) (xs.drop (k + 1)) = nameB s.data.toList) := by
                  show _ = _
                  rw [← h0, name_good _ _ _ (by omega)]
                have t4 : (kindZ x != 1) = false := by rw [hx1]; rfl
                clear hx1 h0 hz0 hd
                go_wp2_with fail
                refine (CK.out _ _).mono ?_
                rintro e w2 ⟨rfl, rfl⟩
                go_wp2
                go_roundw
                case rel => exact ⟨k + 1, by go_num, (by first | trivial | rfl), by omega, H2⟩
                case measure => simp [Go.RowKit.intOf]; omega
              · have t4 : (kindZ x != 1) = true := by rw [bne_iff_ne]; exact hx1
                by_cases hx2 : kindZ x = 2
                · have H2 : Hid (nameGo (k + 1) (xs.drop (k + 1)) = nameB s.data.toList) := by
                    show _ = _
                    rw [← h0, name_good _ _ _ (by omega)]
                  have t5 : (kindZ x != 2) = false := by rw [hx2]; rfl
                  clear hx1 hx2 h0 hz0 hd
                  go_wp2_with fail
                  refine (CK.out _ _).mono ?_
                  rintro e w2 ⟨rfl, rfl⟩
                  go_wp2_with fail
                  refine (CK.out _ _).mono ?_
                  rintro e w2 ⟨rfl, rfl⟩
                  go_wp2
                  go_roundw
                  case rel => exact ⟨k + 1, by go_num, (by first | trivial | rfl), by omega, H2⟩
                  case measure => simp [Go.RowKit.intOf]; omega
                · have HR := Lib.hid (show false = nameB s.data.toList by rw [← h0, name_bad _ _ _ (by omega)])
                  have t5 : (kindZ x != 2) = true := by rw [bne_iff_ne]; exact hx2
                  clear hx1 hx2 h0 hz0 hd
                  go_wp2_with fail
                  refine (CK.out _ _).mono ?_
                  rintro e w2 ⟨rfl, rfl⟩
                  go_wp2_with fail
                  refine (CK.out _ _).mono ?_
                  rintro e w2 ⟨rfl, rfl⟩
                  go_wp2
                  go_ret
                  exact ⟨ret_bool HR.out, HB.out⟩
            · have j1 : (n : Int) ≤ k := by omega
              have HR := Lib.hid (show true = nameB s.data.toList by
                rw [← H.out, List.drop_eq_nil_of_le (by rw [HN.out]; omega)]
                unfold nameGo; simp; omega)
              go_wp2
              go_ret
              exact ⟨ret_bool HR.out, HB.out⟩
        · have HR := Lib.hid (show false = nameB s.data.toList by
            have hd := HD.out 0 (by omega)
            rw [List.drop_zero] at hd
            rw [← HX.out, hd, name_bad _ _ _ (by omega)])
          have t3 : (kindZ (xs.getD 0 0) != 1) = true := by rw [bne_iff_ne]; exact hk1
          obtain ⟨x0, hx0⟩ : ∃ x0, x0 = xs.getD 0 0 := ⟨_, rfl⟩
          rw [← hx0] at c0 t3
          clear hk1 hx0
          go_wp2_with fail
          refine (CK.out _ _).mono ?_
          rintro e w2 ⟨rfl, rfl⟩
          go_wp2
          go_ret
          exact ⟨ret_bool HR.out, HB.out⟩
end Go.Proofs.Ytmidpekkomhogaa
end
