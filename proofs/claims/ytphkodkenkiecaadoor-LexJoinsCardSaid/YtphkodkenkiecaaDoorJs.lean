/- A walk: the statement on words that are joined. -/
import Derived.Test.YtphkodkenkiecaaDoorJr
namespace Go.Proofs.YtphkodkenkiecaaDoor
open Go.RowKit

theorem chunk_more (t : List UInt8) (hne : t ≠ []) : wideL t ≤ (chunkQ t).length := by
  have hh : (head t).length = wideL t := by unfold head; rw [List.length_take]; have := wide_le hne; unfold wideL at this ⊢; omega
  rcases chunk_kinds t hne with ⟨_, e, e2⟩ | ⟨_, e, e2⟩ | ⟨_, e, e2⟩ | ⟨_, _, e, e2⟩ | ⟨_, _, e, e2⟩
  all_goals rw [e, ← hh, e2]
  all_goals simp
theorem body_more (l : List UInt8) : l.length ≤ (bodyQ l).length := by
  induction l using sufs_induct with
  | h0 => simp
  | h1 l hne ih =>
    have hc := chunk_more l hne
    have hw := wide_le hne
    rw [bodyQ_step l hne, List.length_append]
    rw [List.length_drop] at ih
    unfold wideL at hc hw
    omega
theorem num_short {s : List UInt8} {t : Tk} (h : numL s = some t) : t.2.1.length ≤ 13 := by
  unfold numL at h
  split at h
  · cases h
  · split at h
    · cases h; exact dec_len _ 13 (by omega) (by decide)
    · split at h
      · cases h
      · cases h; exact dec_len _ 13 (by omega) (by decide)
theorem first_short {l : List UInt8} {t : Tk} (h : firstL l = some t) : t.2.1.length ≤ l.length + 13 := by
  unfold firstL at h
  split at h
  · split at h
    · cases h
      have := chainL_le l
      show (l.take (chainL l)).length ≤ _
      rw [List.length_take]; omega
    · cases h
  · split at h
    · have := num_short h; omega
    · split at h
      · split at h
        · rename_i t' hu
          cases h
          have h1 := congrArg List.length (unquoteL_some hu)
          have h2 := body_more t'
          rw [quote_len, List.length_take] at h1
          show t'.length ≤ _
          omega
        · cases h
      · unfold signL at h
        split at h
        · cases h; show (l.take 2).length ≤ _; rw [List.length_take]; omega
        · split at h
          · cases h; show (l.take 1).length ≤ _; rw [List.length_take]; omega
          · cases h
theorem lex_short (l : List UInt8) : ∀ (a : Nat) (ws : List Wd), lexAt a l = some ws → ∀ w ∈ ws, w.2.2.length ≤ l.length + 13 := by
  induction l using lex_induct with
  | h0 => intro a ws h; obtain rfl : [] = ws := Option.some.inj h; intro w hw; cases hw
  | h1 l hne ih =>
    intro a ws h
    have hl : 0 < l.length := List.length_pos_iff.2 hne
    by_cases h3 : kindZ (rune l) = 3
    · rw [lexAt_blank a hne h3] at h
      intro w hw
      have := ih _ (by rw [List.length_drop]; omega) _ _ h w hw
      rw [List.length_drop] at this; omega
    · cases hf : firstL l with
      | none => rw [lexAt_none a hne h3 hf] at h; cases h
      | some t =>
        have hb1 := first_len hne hf
        rw [lexAt_tok a hne h3 hf] at h
        cases hx : lexAt (a + t.2.2) (l.drop t.2.2) with
        | none => rw [hx] at h; cases h
        | some vs =>
          rw [hx] at h
          obtain rfl := Option.some.inj h
          intro w hw
          rcases List.mem_cons.1 hw with rfl | hw
          · exact first_short hf
          · have := ih _ (by rw [List.length_drop]; omega) _ _ hx w hw
            rw [List.length_drop] at this; omega
theorem placed_len : ∀ (ws : List (Nat × List UInt8)) (a : Nat), (placed a ws).length = ws.length
  | [], _ => rfl
  | w :: ws, a => by rw [placed, List.length_cons, placed_len ws, List.length_cons]
theorem placed_kt : ∀ (ws : List (Nat × List UInt8)) (a : Nat), (placed a ws).map ktW = ws
  | [], _ => rfl
  | w :: ws, a => by rw [placed, List.map_cons, placed_kt ws]; rfl

set_option maxHeartbeats 8000000 in
set_option maxRecDepth 100000 in
theorem joins_any (s : ByteArray) (w : World) (h : Env w) (hs : s.size ≤ maxLen) :
    Calls Tryd.prog 3 #[.string s] w fun e w' => e = .returned (.bool true) ∧ Below w.heap.size w w' := by
  unfold maxLen at hs
  have HE := Lib.hid h
  have cA := Lib.hid (fun W (hb : Below w.heap.size w W) => alive_any W (h.below hb))
  by_cases hbig : 600 < s.size
  · have i1 : (600 : Int) < s.size := by omega
    clear hbig h
    go_enter Tryd.func3, Tryd.ntmps3
    go_wp2_with (go_at_call 7; refine (cA.out _ (Below.refl _ _)).mono ?_; rintro e w1 ⟨rfl, b1⟩)
    go_ret
    exact ⟨rfl, b1⟩
  · have i1 : (s.size : Int) ≤ 600 := by omega
    have i2 : s.size ≤ 600 := by omega
    clear hbig h hs
    cases hl : lexL s.data.toList with
    | none =>
      have C1 := Lib.hid (fun W (hb : Below w.heap.size w W) => words_none s hl i2 W (HE.out.below hb))
      clear hl
      go_enter Tryd.func3, Tryd.ntmps3
      go_wp2_with fail
      refine (cA.out _ (Below.refl _ _)).mono ?_
      rintro e w1 ⟨rfl, b1⟩
      have B1 := Lib.hid b1
      clear b1
      go_wp2_with fail
      refine (C1.out _ B1.out).mono ?_
      rintro e w2 ⟨rfl, b2⟩
      have B2 := Lib.hid (B1.out.trans (b2.mono B1.out.size))
      clear b2
      go_wp2
      go_ret
      exact ⟨rfl, B2.out⟩
    | some ws =>
      have C1 := Lib.hid (fun W (hb : Below w.heap.size w W) => words_some s ws hl i2 W (HE.out.below hb))
      have hfew := lex_few s.data.toList 0 ws hl
      have hsh := lex_short s.data.toList 0 ws hl
      have hfi := lexAt_fine s.data.toList 0 ws hl
      rw [← Lib.size_eq] at hfew hsh
      have hsh2 : ∀ x ∈ ws, x.2.2.length ≤ 100000 := fun x hx => by have := hsh x hx; omega
      have C2 := Lib.hid (fun o c W (hS : SeesW W o ws) => join_any o c ws W (by omega) hS hsh2)
      obtain ⟨n, hn⟩ : ∃ n, ws.length = n := ⟨_, rfl⟩
      rw [hn] at C1 C2 hfew
      have HN := Lib.hid hn
      obtain ⟨tb, htb⟩ : ∃ tb : ByteArray, tb = ⟨(joinW ws).toArray⟩ := ⟨_, rfl⟩
      rw [← htb] at C2
      have htd : tb.data.toList = joinW ws := by rw [htb]
      have i3 : (n : Int) ≤ 600 := by omega
      by_cases hT : 600 < tb.size
      · have i4 : (600 : Int) < tb.size := by omega
        clear hfew hsh hfi hsh2 hn htb htd hT hl
        go_enter Tryd.func3, Tryd.ntmps3
        go_wp2_with fail
        refine (cA.out _ (Below.refl _ _)).mono ?_
        rintro e w1 ⟨rfl, b1⟩
        have B1 := Lib.hid b1
        clear b1
        go_wp2_with fail
        refine (C1.out _ B1.out).mono ?_
        rintro e w2 ⟨⟨o1, c1, rfl, hS1⟩, b2⟩
        have B2 := Lib.hid (B1.out.trans (b2.mono B1.out.size))
        have S1 := Lib.hid hS1
        clear b2 hS1
        go_wp2_with fail
        refine (C2.out _ _ _ S1.out).mono ?_
        rintro e w3 ⟨rfl, b3⟩
        have B3 := Lib.hid (B2.out.trans (b3.mono B2.out.size))
        clear b3
        go_wp2
        go_ret
        exact ⟨rfl, B3.out⟩
      · have i4 : (tb.size : Int) ≤ 600 := by omega
        have hm : lexL tb.data.toList = some (placed 0 (ws.map ktW)) := by
          rw [htd]
          exact join_again (ws.map ktW) 0 (by intro x hx; obtain ⟨y, hy, rfl⟩ := List.mem_map.1 hx; exact hfi y hy)
        obtain ⟨ms, hms⟩ : ∃ ms, placed 0 (ws.map ktW) = ms := ⟨_, rfl⟩
        have HMS := Lib.hid hms
        rw [hms] at hm
        have hmn : ms.length = n := by rw [← hms, placed_len, List.length_map, hn]
        have hmk : ms.map ktW = ws.map ktW := by rw [← hms, placed_kt]
        have hjm : joinW ms = joinW ws := by unfold joinW; rw [hmk]
        have hsm : ∀ x ∈ ms, x.2.2.length ≤ 700 := by
          intro x hx
          have h1 : ktW x ∈ ms.map ktW := List.mem_map.2 ⟨x, hx, rfl⟩
          rw [hmk] at h1
          obtain ⟨y, hy, e⟩ := List.mem_map.1 h1
          have := hsh y hy
          have h9 : (ktW y).2 = (ktW x).2 := by rw [e]
          have e2 : y.2.2 = x.2.2 := h9
          rw [← e2]; omega
        have C3 := Lib.hid (fun W (hb : Below w.heap.size w W) => words_some tb ms hm (by omega) W (HE.out.below hb))
        have C4 := Lib.hid (fun o c W (hS : SeesW W o ms) => join_any o c ms W (by omega) hS (fun x hx => by have := hsm x hx; omega))
        rw [hmn] at C3 C4
        rw [hjm, ← htb] at C4
        have HMN := Lib.hid hmn
        have HSM := Lib.hid hsm
        have HMK := Lib.hid hmk
        have C5 := Lib.hid (fun (k a : Nat) (tx : List UInt8) W (b : Nat) (ht : tx.length ≤ 700) (hS : SeesW W (some ⟨b, 0, none⟩) [(k, a, tx)]) => join_any (some ⟨b, 0, none⟩) 1 [(k, a, tx)] W (by simp) hS (by intro x hx; simp at hx; subst hx; show tx.length ≤ _; omega))
        clear hfew hsh hfi hsh2 hn htb htd hT hl hm hms hmn hmk hjm hsm
        go_enter Tryd.func3, Tryd.ntmps3
        go_wp2_with fail
        refine (cA.out _ (Below.refl _ _)).mono ?_
        rintro e w1 ⟨rfl, b1⟩
        have B1 := Lib.hid b1
        clear b1
        go_wp2_with fail
        refine (C1.out _ B1.out).mono ?_
        rintro e w2 ⟨⟨o1, c1, rfl, hS1⟩, b2⟩
        have B2 := Lib.hid (B1.out.trans (b2.mono B1.out.size))
        have S1 := Lib.hid hS1
        clear b2 hS1
        go_wp2_with fail
        refine (C2.out _ _ _ S1.out).mono ?_
        rintro e w3 ⟨rfl, b3⟩
        have B3 := Lib.hid (B2.out.trans (b3.mono B2.out.size))
        have S2 := Lib.hid (S1.out.below b3)
        clear b3 S1
        go_wp2_with fail
        refine (C3.out _ B3.out).mono ?_
        rintro e w4 ⟨⟨o2, c2, rfl, hS3⟩, b4⟩
        have B4 := Lib.hid (B3.out.trans (b4.mono B3.out.size))
        have S1 := Lib.hid (S2.out.below b4)
        have S3 := Lib.hid hS3
        clear b4 S2 hS3
        go_wp2_with fail
        go_loopw [8, 9, 10] (fun v8 v9 _ wr => ∃ (i a : Nat), v9 = .int .i64 i ∧ v8 = .int .i64 a ∧ i ≤ n ∧ Hid (ms.drop i = placed a ((ws.map ktW).drop i)) ∧ a ≤ 4000 * i ∧ Hid (Below w4.heap.size w4 wr)) (fun _ v9 _ _ => n - (intOf v9).toNat)
        case atStart => exact ⟨0, 0, rfl, rfl, Nat.zero_le _, (by show _ = _; rw [← HMS.out]; rfl), Nat.le_refl _, Below.refl _ _⟩
        case round =>
          obtain ⟨i, a, rfl, rfl, hi, HD, ha, HBr⟩ := hrel
          have hzr := HBr.out.size
          by_cases hin : i < n
          · have q1 : (i : Int) < n := by omega
            have q2 : (a : Int) ≤ 2400000 := by omega
            obtain ⟨x, hx⟩ : ∃ x, ws[i]? = some x := ⟨ws[i]'(by rw [HN.out]; exact hin), List.getElem?_eq_getElem _⟩
            have hdr : (ws.map ktW).drop i = ktW x :: (ws.map ktW).drop (i + 1) := by
              rw [List.drop_eq_getElem_cons (by rw [List.length_map, HN.out]; exact hin)]
              congr 1
              have : (ws.map ktW)[i]? = some (ktW x) := by rw [List.getElem?_map, hx]; rfl
              exact (List.getElem?_eq_some_iff.1 this).2
            have hD := HD.out
            rw [hdr] at hD
            have hy : ms[i]? = some (x.1, a, x.2.2) := by
              have : (ms.drop i)[0]? = some (x.1, a, x.2.2) := by rw [hD]; rfl
              rwa [List.getElem?_drop, Nat.add_zero] at this
            have hD2 : ms.drop (i + 1) = placed (a + (spellW (ktW x)).length + 1) ((ws.map ktW).drop (i + 1)) := by
              have : (ms.drop i).drop 1 = _ := congrArg (List.drop 1) hD
              rw [List.drop_drop] at this; exact this
            have hlen : (spellW (ktW x)).length ≤ 3600 := by
              have h1 := HSM.out _ (List.mem_of_getElem? hy)
              have h2 := spellW_len (ktW x)
              have h3 : (ktW x).2.length = x.2.2.length := rfl
              dsimp only at h1; omega
            have hxl := HSM.out _ (List.mem_of_getElem? hy)
            obtain ⟨p1, f1, rfl, hp1, hc1⟩ := (S1.out.below HBr.out).open (by intro h0; rw [h0] at hx; simp at hx)
            obtain ⟨x0, x1, x2⟩ := hc1 i _ hx
            obtain ⟨p3, f3, rfl, hp3, hc3⟩ := (S3.out.below HBr.out).open (by intro h0; rw [h0] at hy; simp at hy)
            obtain ⟨y0, y1, y2⟩ := hc3 i _ hy
            clear hc3 hc1 hx hy hdr hD HD
            obtain ⟨xk, xa, xt⟩ := x
            dsimp only [ktW] at x0 x1 x2 y0 y1 y2 hD2 hlen hxl
            have HY := Lib.hid (And.intro y0 (And.intro y1 y2))
            have HD2 := Lib.hid hD2
            clear hD2
            go_wp2_with fail
            go_quiet (fail)
            obtain ⟨wq, hwq⟩ : ∃ wq, wr.drewN nq = wq := ⟨_, rfl⟩
            rw [hwq]
            have bq : Below wr.heap.size wr wq := by rw [← hwq]; exact ⟨rfl, rfl, rfl, Nat.le_refl _, fun _ _ => rfl⟩
            have z0 := (bq.cell (p := ⟨p3, f3 + i * 3, none⟩) hp3).trans y0
            have z1 := (bq.cell (p := ⟨p3, f3 + i * 3 + 1, none⟩) hp3).trans y1
            have z2 := (bq.cell (p := ⟨p3, f3 + i * 3 + 2, none⟩) hp3).trans y2
            have HBq := Lib.hid (HBr.out.trans (bq.mono hzr))
            have hp4 : p3 < wq.heap.size := Nat.lt_of_lt_of_le hp3 bq.size
            obtain ⟨xb, hxb⟩ : ∃ xb : ByteArray, (⟨(joinW [(xk, a, xt)]).toArray⟩ : ByteArray) = xb := ⟨_, rfl⟩
            have hxs : xb.size = (spellW (xk, xt)).length := by rw [← hxb, size_arr]; rfl
            obtain ⟨L, hL⟩ : ∃ L, (spellW (xk, xt)).length = L := ⟨_, rfl⟩
            rw [hL] at hxs HD2 hlen
            have HXS := Lib.hid hxs
            have q3 : (xb.size : Int) ≤ 3600 := by omega
            have C6 := Lib.hid (fun W b hS => C5.out xk a xt W b hxl hS)
            rw [hxb] at C6
            clear hwq bq x0 x1 x2 y0 y1 y2 hp1 hp3 hxb hxs hL
            go_wp2_with fail
            refine (C6.out _ _ (sees_one wq xk a ⟨xt.toArray⟩)).mono ?_
            rintro e w5 ⟨rfl, b5⟩
            have HB5 := Lib.hid (HBq.out.trans ((((Below.refl _ _).alloc (Nat.le_refl _) _).trans (b5.mono (by simp))).mono HBq.out.size))
            clear b5 z0 z1 z2
            go_wp2
            go_roundw
            case rel => exact ⟨i + 1, a + L + 1, by go_num, by have := HXS.out; exact ofInt (by omega), by omega, HD2, by omega, HB5⟩
            case measure => simp [intOf]; omega
          · have q1 : (n : Int) ≤ i := by omega
            go_wp2_with fail
            refine (C4.out _ _ _ (S3.out.below HBr.out)).mono ?_
            rintro e w5 ⟨rfl, b5⟩
            go_wp2
            go_ret
            exact ⟨rfl, B4.out.trans ((HBr.out.trans (b5.mono hzr)).mono B4.out.size)⟩
end Go.Proofs.YtphkodkenkiecaaDoor
