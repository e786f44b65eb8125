/- Patterns: a text's signs; a text is read. -/
import Derived.Test.YtfpdhmecomgbdaaPh
import Derived.Test.YtfpdhmecomgbdaaSp0
import Derived.Lib.QuoteLoop
namespace Go.Proofs.Ytfpdhmecomgbdaa
open Go.RowKit

theorem info74 : (Try.prog.info? 74).map (fun i => (i.zero, i.size, i.bytes)) = some (some (.agg #[.int .i32 0, .bool false]), 2, 8) := by kernel_rfl
/-- The cells of signs. -/
def flatS (xs : List Sg) : List Value := xs.flatMap fun x => [.int .i32 x.1, .bool x.2]
theorem flatS_snoc (xs : List Sg) (x : Sg) : flatS (xs ++ [x]) = flatS xs ++ [.int .i32 x.1, .bool x.2] := by simp [flatS]
theorem flatS_at : ∀ (xs : List Sg) (j : Nat) (x : Sg), xs[j]? = some x → (flatS xs)[j * 2]? = some (.int .i32 x.1) ∧ (flatS xs)[j * 2 + 1]? = some (.bool x.2)
  | [], j, x, h => by simp at h
  | y :: ys, 0, x, h => by simp at h; subst h; exact ⟨rfl, rfl⟩
  | y :: ys, j + 1, x, h => by
    have := flatS_at ys j x (by simpa using h)
    have e : flatS (y :: ys) = [.int .i32 y.1, .bool y.2] ++ flatS ys := rfl
    rw [e, List.getElem?_append_right (by simp; omega), List.getElem?_append_right (by simp; omega)]
    simp only [List.length_cons, List.length_nil]
    rw [show (j + 1) * 2 - (0 + 1 + 1) = j * 2 by omega, show (j + 1) * 2 + 1 - (0 + 1 + 1) = j * 2 + 1 by omega]
    exact this
theorem one_2s (a : Int) (b : Bool) : ∀ v ∈ [Value.int .i32 a, Value.bool b], v.oneCell' = true := by
  intro v hv; simp at hv; rcases hv with rfl | rfl <;> rfl
theorem own_snocS {w : World} {B : Nat} {v : Value} {xs : List Sg} {a : Int} {b : Bool} (h : w.ownsRow B 74 2 v (xs.length + 1) (flatS xs ++ [.int .i32 a, .bool b])) : w.ownsRow B 74 2 v (xs ++ [(a, b)]).length (flatS (xs ++ [(a, b)])) := by
  rw [List.length_append, flatS_snoc]; exact h
/-- What spell leaves. -/
def Signs (B : Nat) (xs : List Sg) (ok : Bool) (e : Ending) (w' : World) : Prop := ∃ v, e = .returned (.tuple #[v, .bool ok]) ∧ w'.ownsRow B 74 2 v xs.length (flatS xs)

set_option maxHeartbeats 2000000 in
set_option maxRecDepth 100000 in
theorem signs_any (s : ByteArray) (w : World) (hs : s.size ≤ 1000000) :
    Calls Try.prog 22 #[.string s] w fun e w' => Signs (w.heap.size + 1) (signsGo false (spell s.data.toList)) (!endsGo false (spell s.data.toList)) e w' ∧ Below w.heap.size w w' := by
  obtain ⟨ie, hi, hz0, hz1, hz2⟩ := info_parts info74
  go_enter Try.func22, Try.ntmps22
  go_wp2
  go_loopw [4, 5] (fun v v5 wr => ∃ (pos : Nat) (b : Bool) (xs : List Sg), v5 = .bool b ∧ wr.heap[w.heap.size]? = some (.stringIter s pos) ∧ wr.ownsRow (w.heap.size + 1) 74 2 v xs.length (flatS xs) ∧ Below w.heap.size w wr ∧ Hid (xs ++ signsGo b (spell (s.data.toList.drop pos)) = signsGo false (spell s.data.toList) ∧ endsGo b (spell (s.data.toList.drop pos)) = endsGo false (spell s.data.toList)) ∧ xs.length ≤ pos ∧ pos ≤ s.size) (fun _ _ wr => s.size - wr.iterPos w.heap.size)
  case atStart => exact ⟨0, false, [], rfl, World.iter_heap w s 0, World.ownsRow_nil _ _ _ _, (Below.refl _ _).alloc (Nat.le_refl _) _, ⟨by simp, by simp⟩, by simp, Nat.zero_le _⟩
  case round =>
    obtain ⟨pos, b, xs, rfl, hit, hown, hbw, H, hk, hps⟩ := hrel
    have hpos0 := iterPos_of hit
    by_cases hp : pos < s.size
    · have hnx : ∀ ty, (Instr.next (.pointer (some ⟨w.heap.size, 0, none⟩)) true ty).run Try.prog wr = _ := fun ty => Lib.run_next_any_at wr w.heap.size s pos ty hit hp
      have hwd := width1 s pos
      have hwl := width_le hp
      have hit2 := Lib.iterAt_heap wr w.heap.size s pos (pos + (Utf8.decode s pos).2) hit
      have hbw2 := Lib.below_iterAt hbw (k := w.heap.size) (Nat.le_refl _) s (pos + (Utf8.decode s pos).2)
      have hown2 := ownsRow_iterAt hown (k := w.heap.size) (by omega) s (pos + (Utf8.decode s pos).2)
      have hsp := spell_at hp
      obtain ⟨r, hr⟩ : ∃ r : Int, ((Utf8.decode s pos).1 : Int) = r := ⟨_, rfl⟩
      rw [hr] at hsp
      have HSP := Lib.hid hsp
      obtain ⟨W1, hW1⟩ : ∃ W1, W1 = wr.iterAt w.heap.size s (pos + (Utf8.decode s pos).2) := ⟨_, rfl⟩
      rw [← hW1] at hnx hit2 hbw2 hown2
      rw [hr] at hnx
      have hBlt : w.heap.size < W1.heap.size := (Array.getElem?_eq_some_iff.1 hit2).1
      obtain ⟨p2, hp2⟩ : ∃ p2, pos + (Utf8.decode s pos).2 = p2 := ⟨_, rfl⟩
      rw [hp2] at hit2 hwl HSP
      have hlt2 : pos < p2 := by omega
      clear hW1 hit hown hbw hr hsp hp2 hwd
      by_cases hc : r = 92 ∧ b = false
      · obtain ⟨rfl, rfl⟩ := hc
        have H2 := Lib.hid (show xs ++ signsGo true (spell (s.data.toList.drop p2)) = signsGo false (spell s.data.toList) ∧ endsGo true (spell (s.data.toList.drop p2)) = endsGo false (spell s.data.toList) by
          have := H.out
          rw [HSP.out] at this
          simpa [signsGo, endsGo] using this)
        clear H HSP
        go_wp2
        go_roundw
        case rel => exact ⟨p2, true, xs, rfl, hit2, hown2, hbw2, H2, by omega, hwl⟩
        case measure => rw [iterPos_of hit2, hpos0]; omega
      · have hnot : (r == 92 && !b) = false := by
          cases b with
          | true => simp
          | false => simp at hc ⊢; exact hc
        have H2 := Lib.hid (show (xs ++ [(r, !b)]) ++ signsGo false (spell (s.data.toList.drop p2)) = signsGo false (spell s.data.toList) ∧ endsGo false (spell (s.data.toList.drop p2)) = endsGo false (spell s.data.toList) by
          have := H.out
          rw [HSP.out] at this
          simp only [signsGo, endsGo, hnot] at this
          simpa using this)
        have HB := Lib.hid hnot
        clear H HSP hnot
        rcases (show ((r == 92) = false) ∨ (r = 92 ∧ b = true) by
          cases h : (r == 92) with
          | false => exact .inl rfl
          | true => exact .inr ⟨by simpa using h, by
              cases b with
              | true => rfl
              | false => exact absurd ⟨by simpa using h, rfl⟩ hc⟩) with hy | ⟨rfl, rfl⟩
        all_goals
          clear hc
          go_wp2_with (at_builtin; go_must (refine wpList_append_own _ rfl _ _ 55 rfl (w.heap.size + 1) 74 ie (.agg #[.int .i32 0, .bool false]) 2 8 Try.underlying55 hi hz0 hz1 hz2 rfl (by decide) _ _ _ rfl (hown2.alloc _) ⟨W1.heap.size, 0, none⟩ 1 1 [.int .i32 _, .bool _] rfl rfl (cells_2 _ _ _ _) (one_2s _ _) (by unfold maxLen; omega) (by omega) (by simp; omega) ?_); intro v' w3 hown' hgrow3 hnil3)
          replace hgrow3 : World.grownBy _ w3 u4.ownBlock := hgrow3
          have hit3 : w3.heap[w.heap.size]? = some (.stringIter s p2) := by
            rw [hgrow3.block w.heap.size (by simp; omega) (fun h => by have := (hown2.lt _ h.symm).1; omega), Below.heap_alloc _ _ _ hBlt]; exact hit2
          have hbw3 : Below w.heap.size w w3 := Below.grown (hbw2.alloc (by omega) _) hgrow3 (by simp; omega) (fun j hj => by have := (hown2.lt _ hj).1; omega)
          have ho3 := own_snocS hown'
          clear hown' hgrow3 hnil3
          go_roundw
          case rel => exact ⟨p2, false, _, rfl, hit3, ho3, hbw3, H2, by simp; omega, hwl⟩
          case measure => rw [iterPos_of hit3, hpos0]; omega
    · have hnx : ∀ ty, (Instr.next (.pointer (some ⟨w.heap.size, 0, none⟩)) true ty).run Try.prog wr = _ := fun ty => Lib.run_next_end_at wr w.heap.size s pos ty hit hp
      have H2 := Lib.hid (show xs = signsGo false (spell s.data.toList) ∧ b = endsGo false (spell s.data.toList) by
        have := H.out
        rw [spell_end hp] at this
        simpa [signsGo, endsGo] using this)
      clear H
      go_wp2
      go_ret2
      refine ⟨?_, hbw⟩
      rw [← H2.out.1, ← H2.out.2]
      exact ⟨_, rfl, hown⟩

theorem rune_ok (t : List UInt8) : okR (rune t) := by
  unfold rune
  rw [Lib.decodeL_N]
  have := Lib.decodeN_valid t.length (t.getD 0 0).toNat (t.getD 1 0).toNat (t.getD 2 0).toNat (t.getD 3 0).toNat (UInt8.toNat_lt _)
  unfold okR
  omega
theorem spell_ok (l : List UInt8) : ∀ r ∈ spell l, okR r := by
  intro r hr
  unfold spell at hr
  obtain ⟨t, _, rfl⟩ := List.mem_map.1 hr
  exact rune_ok t
theorem signs_mem : ∀ (b : Bool) (rs : List Int) (s : Sg), s ∈ signsGo b rs → s.1 ∈ rs
  | _, [], s, h => by simp [signsGo] at h
  | b, r :: rs, s, h => by
    rw [signsGo] at h
    split at h
    · exact List.mem_cons_of_mem _ (signs_mem true rs s h)
    · rcases List.mem_cons.1 h with rfl | h
      · exact List.mem_cons_self
      · exact List.mem_cons_of_mem _ (signs_mem false rs s h)
theorem rd_of_own {w : World} {B : Nat} {v : Value} {xs : List Sg} (h : w.ownsRow B 74 2 v xs.length (flatS xs)) (hm : xs.length ≤ 1000000) (hok : ∀ s ∈ xs, okR s.1) : Rd (w.alloc (.cells #[v] 59)) w.heap.size xs := by
  have hb : (w.alloc (.cells #[v] 59)).heap[w.heap.size]? = some (.cells #[v] 59 (0, 0)) := Array.getElem?_push_size
  rcases h.2 with ⟨rfl, h0⟩ | ⟨g, cap, cur, rfl, hB, hg, hc, _⟩
  · have : xs = [] := List.eq_nil_of_length_eq_zero h0
    subst this
    exact ⟨_, hb, none, 0, rfl, Nat.le_refl _, ⟨hm, hok⟩, .inl rfl⟩
  · have hl := (Array.getElem?_eq_some_iff.1 hg).1
    refine ⟨_, hb, _, cap, rfl, hc, ⟨hm, hok⟩, .inr ⟨g, 0, rfl, hl, ?_⟩⟩
    have hs : SigAt w g 0 xs := by
      refine ⟨hl, fun j x hx => ?_, fun j x hx => ?_⟩
      · have c1 := h.cells (g := g) rfl _ _ (flatS_at xs j x hx).1
        simpa only [Addr.add_lit] using c1
      · have c1 := h.cells (g := g) rfl _ _ (flatS_at xs j x hx).2
        simpa only [Addr.add_lit, Nat.add_assoc] using c1
    exact hs.keep (Below.heap_alloc _ _ _ hl)
/-- What read leaves. -/
def ReadRes (w : World) (r : Option Pt) (e : Ending) (w' : World) : Prop := match r with
  | some x => ∃ v, e = .returned (.tuple #[v, .bool true]) ∧ Tree w' (fun b => w.heap.size ≤ b) v x ∧ Below w.heap.size w w'
  | none => ∃ v, e = .returned (.tuple #[v, .bool false]) ∧ Below w.heap.size w w'
theorem below_of_grown {w w1 w' : World} {bd : Nat} (hb : Below w.heap.size w w1) (hg : w1.grownBy w' (some bd)) (h : w.heap.size ≤ bd) : Below w.heap.size w w' :=
  ⟨hg.os.trans hb.os, hg.tape.trans hb.tape, hg.output.trans hb.output, Nat.le_trans hb.size hg.size, fun k hk => (hg.block k (Nat.lt_of_lt_of_le hk hb.size) (by simp; omega)).trans (hb.block k hk)⟩

set_option maxHeartbeats 2000000 in
set_option maxRecDepth 100000 in
theorem read_any (s : ByteArray) (w : World) (hs : s.size ≤ 1000000) : Calls Try.prog 17 #[.string s] w (ReadRes w (readP (spell s.data.toList))) := by
  have HSG := Lib.hid (signs_any s w hs)
  have hlen : (signsGo false (spell s.data.toList)).length ≤ 1000000 := by
    have h1 := signsGo_len false (spell s.data.toList)
    have h2 : (spell s.data.toList).length ≤ s.data.toList.length := by unfold spell; rw [List.length_map]; exact sufs_len _
    rw [← Lib.size_eq] at h2
    omega
  have hok : ∀ x ∈ signsGo false (spell s.data.toList), okR x.1 := fun x hx => spell_ok _ _ (signs_mem _ _ _ hx)
  have hrp : readP (spell s.data.toList) = if endsGo false (spell s.data.toList) then none else match choiceP (signsGo false (spell s.data.toList)) [] with
    | none => none
    | some (c, m) => if m.isEmpty then some (.choice c) else none := rfl
  generalize signsGo false (spell s.data.toList) = sg at HSG hlen hok hrp
  generalize endsGo false (spell s.data.toList) = en at HSG hrp
  generalize readP (spell s.data.toList) = res at hrp
  have HRP := Lib.hid hrp
  have HOK := Lib.hid hok
  clear hrp hok
  cases en with
  | true =>
    have HR := Lib.hid (show res = none from HRP.out)
    go_enter Try.func17, Try.ntmps17
    go_wp2_with fail
    refine HSG.out.mono ?_
    rintro e w1 ⟨⟨v, rfl, hown⟩, hb⟩
    have HB := Lib.hid hb
    clear hown hb
    go_wp2
    go_ret2
    rw [HR.out]
    exact ⟨_, rfl, HB.out⟩
  | false =>
    go_enter Try.func17, Try.ntmps17
    go_wp2_with fail
    refine HSG.out.mono ?_
    rintro e w1 ⟨⟨v, rfl, hown⟩, hb⟩
    have HB := Lib.hid hb
    have HRD := Lib.hid (rd_of_own hown hlen HOK.out)
    have HCH := Lib.hid (choice_any sg _ _ HRD.out)
    obtain ⟨ov, cv, rfl⟩ := own_shape hown
    have HB2 := Lib.hid (fun w' (hg : (w1.alloc (.cells #[.slice ov sg.length cv] 59)).grownBy w' (some w1.heap.size)) => below_of_grown (hb.alloc hb.size (.cells #[.slice ov sg.length cv] 59)) hg hb.size)
    have hsz := hb.size
    clear hb hown
    cases hch : choiceP sg [] with
    | none =>
      have HR := Lib.hid (show res = none by rw [HRP.out, hch]; rfl)
      rw [hch] at HCH
      clear hch
      go_wp2_with fail
      refine HCH.out.mono ?_
      rintro e w2 ⟨u, rfl, hg2⟩
      have HG := Lib.hid (HB2.out _ hg2)
      clear hg2
      go_wp2_with fail
      go_quiet (fail)
      go_wp2
      go_ret2
      rw [HR.out]
      exact ⟨_, rfl, HG.out.trans ((drewN_below _ _).mono HG.out.size)⟩
    | some p =>
      obtain ⟨c, m⟩ := p
      have HR := Lib.hid (show res = if m.isEmpty then some (.choice c) else none by rw [HRP.out, hch]; rfl)
      rw [hch] at HCH
      clear hch
      cases m with
      | nil =>
        go_wp2_with fail
        refine HCH.out.mono ?_
        rintro e w2 ⟨u, rfl, ht2, hr2, hg2⟩
        have HG := Lib.hid (HB2.out _ hg2)
        have HT := Lib.hid ht2
        obtain ⟨o, cap, hcell, _⟩ := hr2.cell
        replace hcell : w2.cell? ⟨w1.heap.size, 0, none⟩ = some (.slice o 0 cap) := hcell
        clear hg2 ht2 hr2
        go_wp2_with fail
        go_quiet (fail)
        go_wp2
        go_ret2
        rw [HR.out]
        exact ⟨_, rfl, HT.out.keep fun b hb hl => ⟨rfl, by have := World.size_alloc w1 (Obj.cells #[Value.slice ov sg.length cv] 59); omega⟩, HG.out.trans ((drewN_below _ _).mono HG.out.size)⟩
      | cons s1 m1 =>
        go_wp2_with fail
        refine HCH.out.mono ?_
        rintro e w2 ⟨u, rfl, ht2, hr2, hg2⟩
        have HG := Lib.hid (HB2.out _ hg2)
        obtain ⟨o, cap, hcell, hm, _, _⟩ := hr2.cell
        obtain ⟨k, hk⟩ : ∃ k, (s1 :: m1).length = k := ⟨_, rfl⟩
        rw [hk] at hcell hm
        have hk0 : 0 < k := by rw [← hk]; simp
        have hne : ((k : Int) == 0) = false := by simp; omega
        clear hg2 ht2 hr2 hk
        go_wp2_with fail
        go_quiet (fail)
        go_wp2
        go_ret2
        rw [HR.out]
        exact ⟨_, rfl, HG.out.trans ((drewN_below _ _).mono HG.out.size)⟩
end Go.Proofs.Ytfpdhmecomgbdaa
