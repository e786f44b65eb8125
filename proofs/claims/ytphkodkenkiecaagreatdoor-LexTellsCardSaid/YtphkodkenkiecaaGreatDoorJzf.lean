/- A walk (the document's words): all of them. -/
import Derived.Test.YtphkodkenkiecaaGreatDoorJze
namespace Go.Proofs.YtphkodkenkiecaaGreatDoor
open Go.RowKit

set_option maxHeartbeats 4000000 in
set_option maxRecDepth 100000 in
theorem dwords_any (s : ByteArray) (w : World) (hs : s.size ≤ 100000) :
    Calls Tryz.prog 7 #[.string s] w fun e w' => WordsEnd w.heap.size s.data.toList e w' ∧ Below w.heap.size w w' := by
  have hz : s.data.toList.length = s.size := by rw [← Lib.size_eq]
  by_cases hbig : 600 < s.size
  · have i1 : (600 : Int) < s.size := by omega
    have H2 := Lib.hid (show 600 < s.data.toList.length by omega)
    clear hbig hz
    go_enter Tryz.func7, Tryz.ntmps7
    go_wp2
    go_ret2
    exact ⟨by unfold WordsEnd; rw [if_pos H2.out]; rfl, Below.refl _ _⟩
  · have hsm : (s.size : Int) ≤ 600 := by omega
    have HE := Lib.hid (show ∀ B e w', (match lexL s.data.toList with
        | none => e = .returned (.tuple #[.slice none 0 0, .int .i64 2])
        | some ws => ∃ v, e = .returned (.tuple #[v, .int .i64 0]) ∧ w'.ownsRow B 45 3 v ws.length (flatT ws)) → WordsEnd B s.data.toList e w' by
      intro B e w' h; unfold WordsEnd; rw [if_neg (by omega)]; exact h)
    have HZ := Lib.hid hz
    have HF := Lib.hid (fun pos W (hp : pos < s.size) => (dfirst_any (s.extract pos s.size) (by rw [ext_drop]; exact drop_ne hp) W).mono (R' := fun e w' => e = .returned (.int .i32 (rune (s.data.toList.drop pos))) ∧ Below W.heap.size W w') (fun e w' ⟨h1, h2⟩ => ⟨by rw [h1, ext_drop], h2⟩))
    have HT := Lib.hid (fun pos W (hp : pos < s.size) => (dtoken_any (s.extract pos s.size) (by rw [ext_drop]; exact drop_ne hp) W (by rw [ByteArray.size_extract]; omega)).mono (R' := fun e w' => e = .returned (tokV (firstL (s.data.toList.drop pos))) ∧ Below W.heap.size W w') (fun e w' ⟨h1, h2⟩ => ⟨by rw [h1, ext_drop], h2⟩))
    have CK := Lib.hid (fun r W => rkind_any r W)
    clear hs hbig hz
    obtain ⟨i0, hi, hz0, hz1, hz2⟩ := info_parts tok_info
    go_enter Tryz.func7, Tryz.ntmps7
    go_wp2
    go_loopw [4, 5] (fun v4 v5 wr => ∃ (i : Nat) (ws : List Wd), v5 = .int .i64 i ∧ Hid (Below w.heap.size w wr) ∧ wr.ownsRow w.heap.size 45 3 v4 ws.length (flatT ws)
      ∧ Hid ((lexAt i (s.data.toList.drop i)).map (ws ++ ·) = lexL s.data.toList) ∧ ws.length ≤ i ∧ i ≤ s.size) (fun _ v5 _ => s.size - (intOf v5).toNat)
    case atStart => exact ⟨0, [], rfl, Below.refl _ _, World.ownsRow_nil _ _ _ _, (by show _ = _; rw [lexL_at, List.drop_zero]; cases lexAt 0 s.data.toList <;> simp), Nat.le_refl _, Nat.zero_le _⟩
    case round =>
      obtain ⟨q, ws, rfl, HB, hown, H, hwq, hqs⟩ := hrel
      have hzw := HB.out.size
      by_cases hp : q < s.size
      · have q1 : (q : Int) < s.size := by omega
        have C1 := Lib.hid (fun W => HF.out q W hp)
        have C2 := Lib.hid (fun W => HT.out q W hp)
        by_cases hk : kindZ (rune (s.data.toList.drop q)) = 3
        · have H2 := Lib.hid (show (lexAt (q + 1) (s.data.toList.drop (q + 1))).map (ws ++ ·) = lexL s.data.toList by
            rw [← H.out, lexAt_blank q (drop_ne hp) hk, List.drop_drop])
          generalize rune (s.data.toList.drop q) = r at *
          have HO := Lib.hid hown
          clear H C2 hown
          go_wp2_with fail
          refine (C1.out _).mono ?_
          rintro e w1 ⟨rfl, b1⟩
          have HB1 := Lib.hid (HB.out.trans (b1.mono hzw))
          have ho1 := own_below HO.out b1
          clear b1
          go_wp2_with fail
          refine (CK.out _ _).mono ?_
          rintro e w1' ⟨rfl, rfl⟩
          go_wp2
          go_roundw
          case rel => exact ⟨q + 1, ws, by go_num, HB1, ho1, H2, by omega, by omega⟩
          case measure => simp [intOf]; omega
        · have hkk : (kindZ (rune (s.data.toList.drop q)) == 3) = false := by simp [hk]
          cases hf : firstL (s.data.toList.drop q) with
          | none =>
            have H2 := Lib.hid (show lexL s.data.toList = none by rw [← H.out, lexAt_none q (drop_ne hp) hk hf]; rfl)
            rw [hf, show tokV none = .tuple #[.agg #[.int .i64 0, .int .i64 0, .string ⟨#[]⟩], .int .i64 0] from rfl] at C2
            generalize rune (s.data.toList.drop q) = r at *
            clear hf H hk hown
            go_wp2_with fail
            refine (C1.out _).mono ?_
            rintro e w1 ⟨rfl, b1⟩
            have HB1 := Lib.hid (HB.out.trans (b1.mono hzw))
            clear b1
            go_wp2_with fail
            refine (CK.out _ _).mono ?_
            rintro e w1' ⟨rfl, rfl⟩
            go_wp2_with fail
            refine (C2.out _).mono ?_
            rintro e w2 ⟨rfl, b2⟩
            have HB2 := Lib.hid (HB1.out.trans (b2.mono HB1.out.size))
            have hz3 := HB2.out.size
            clear b2
            go_wp2
            go_ret2
            refine ⟨HE.out _ _ _ ?_, HB2.out.alloc hz3 _⟩
            rw [H2.out]
            rfl
          | some t =>
            obtain ⟨k, tx, n⟩ := t
            have hn := first_len (drop_ne hp) hf
            have hn1 : 1 ≤ n := hn.1
            have hn2 : q + n ≤ s.size := by have := hn.2.1; rw [List.length_drop, HZ.out] at this; have h3 : n ≤ s.size - q := this; omega
            have H3 := Lib.hid (show (lexAt (q + n) (s.data.toList.drop (q + n))).map ((ws ++ [(k, q, tx)]) ++ ·) = lexL s.data.toList by
              rw [← H.out, lexAt_tok q (drop_ne hp) hk hf, List.drop_drop]
              show _ = Option.map _ (Option.map _ (lexAt (q + n) (s.data.toList.drop (q + n))))
              cases lexAt (q + n) (s.data.toList.drop (q + n)) <;> simp)
            rw [hf, show tokV (some (k, tx, n)) = .tuple #[.agg #[.int .i64 (k : Nat), .int .i64 0, .string ⟨tx.toArray⟩], .int .i64 (n : Nat)] from rfl] at C2
            generalize rune (s.data.toList.drop q) = r at *
            have HO := Lib.hid hown
            clear hf H hk hown hn
            go_wp2_with fail
            refine (C1.out _).mono ?_
            rintro e w1 ⟨rfl, b1⟩
            have HB1 := Lib.hid (HB.out.trans (b1.mono hzw))
            have HO1 := Lib.hid (own_below HO.out b1)
            clear b1
            go_wp2_with fail
            refine (CK.out _ _).mono ?_
            rintro e w1' ⟨rfl, rfl⟩
            go_wp2_with fail
            refine (C2.out _).mono ?_
            rintro e w2 ⟨rfl, b2⟩
            have HB2 := Lib.hid (HB1.out.trans (b2.mono HB1.out.size))
            have hown3 := own_below HO1.out b2
            have hz3 := HB2.out.size
            clear b2
            go_wp2_with (at_builtin; go_must (refine wpList_append_own _ rfl _ _ 36 rfl w.heap.size 45 i0 (.agg #[.int .i64 0, .int .i64 0, .string ⟨#[]⟩]) 3 32 Tryz.underlying36 hi hz0 hz1 hz2 rfl (by decide) _ _ _ rfl ((hown3.alloc _).alloc _) ⟨w2.heap.size + 1, 0, none⟩ 1 1 [.int .i64 (k : Nat), .int .i64 (q : Nat), .string ⟨tx.toArray⟩] rfl rfl (tcells_4 _ _ _ _ _ _) (tone_3 _ _ _) (by unfold maxLen; omega) (by omega) (by simp; omega) ?_); intro v' w3 hown' hgrow3 hnil3)
            have HB4 := Lib.hid (show Below w.heap.size w w3 from Below.grown ((HB2.out.alloc (by omega) _).alloc (by simp; omega) _) hgrow3 (by simp; omega) (fun j hj => by have := (hown3.lt _ hj).1; omega))
            have ho4 : w3.ownsRow w.heap.size 45 3 v' (ws ++ [(k, q, tx)]).length (flatT (ws ++ [(k, q, tx)])) := by
              rw [List.length_append, flatT_snoc]; exact hown'
            clear hown' hgrow3 hnil3 hown3
            go_roundw
            case rel => exact ⟨q + n, ws ++ [(k, q, tx)], by go_num, HB4, ho4, H3, by rw [List.length_append]; simp; omega, hn2⟩
            case measure => simp [intOf]; omega
      · have q1 : (s.size : Int) ≤ q := by omega
        have H2 := Lib.hid (show lexL s.data.toList = some ws by rw [← H.out, drop_end hp, lexAt_nil]; simp)
        clear H
        go_wp2
        go_ret2
        refine ⟨HE.out _ _ _ ?_, HB.out⟩
        rw [H2.out]
        exact ⟨_, rfl, hown⟩
end Go.Proofs.YtphkodkenkiecaaGreatDoor
