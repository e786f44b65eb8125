import Derived.Test.YtmidpekkomhogaaMg06
import Derived.Lib.QuoteLoop
import Derived.Test.YtmidpekkomhogaaMg05
import Derived.Laws.BitsAllLaws
import Derived.Laws.Shifts
section
/- Patterns: a text's signs; a text is read. -/

namespace Go.Proofs.Ytmidpekkomhogaa.Pat
open Go.RowKit

theorem info74 : (Try.prog.info? 141).map (fun i => (i.zero, i.size, i.bytes)) = some (some (.agg #[.int .i32 0, .bool false]), 2, 8) := by kernel_rfl
/-- The cells of signs. -/
def flatS (xs : List Sg) : List Value := xs.flatMap fun x => [.int .i32 x.1, .bool x.2]
theorem flatS_snoc (xs : List Sg) (x : Sg) : flatS (xs ++ [x]) = flatS xs ++ [.int .i32 x.1, .bool x.2] := by simp [flatS]
theorem flatS_at : ∀ (xs : List Sg) (j : Nat) (x : Sg), xs[j]? = some x → (flatS xs)[j * 2]? = some (.int .i32 x.1) ∧ (flatS xs)[j * 2 + 1]? = some (.bool x.2)
  | [], j, x, h => by simp at h
  | y :: ys, 0, x, h => by simp at h; subst h; exact ⟨rfl, rfl⟩
  | y :: ys, j + 1, x, h => by
    have := flatS_at ys j x (by simpa using h)
    have e : flatS (y :: ys) = [.int .i32 y.1, .bool y.2] ++ flatS ys := rfl
    rw [e, List.getElem?_append_right (by simp; omega), List.getElem?_append_right (by simp; omega)]
    simp only [List.length_cons, List.length_nil]
    rw [show (j + 1) * 2 - (0 + 1 + 1) = j * 2 by omega, show (j + 1) * 2 + 1 - (0 + 1 + 1) = j * 2 + 1 by omega]
    exact this
theorem one_2s (a : Int) (b : Bool) : ∀ v ∈ [Value.int .i32 a, Value.bool b], v.oneCell' = true := by
  intro v hv; simp at hv; rcases hv with rfl | rfl <;> rfl
theorem own_snocS {w : World} {B : Nat} {v : Value} {xs : List Sg} {a : Int} {b : Bool} (h : w.ownsRow B 141 2 v (xs.length + 1) (flatS xs ++ [.int .i32 a, .bool b])) : w.ownsRow B 141 2 v (xs ++ [(a, b)]).length (flatS (xs ++ [(a, b)])) := by
  rw [List.length_append, flatS_snoc]; exact h
/-- What spell leaves. -/
def Signs (B : Nat) (xs : List Sg) (ok : Bool) (e : Ending) (w' : World) : Prop := ∃ v, e = .returned (.tuple #[v, .bool ok]) ∧ w'.ownsRow B 141 2 v xs.length (flatS xs)

set_option maxHeartbeats 2000000 in
set_option maxRecDepth 100000 in
theorem signs_any (s : ByteArray) (w : World) (hs : s.size ≤ 1000000) :
    Calls Try.prog 65 #[.string s] w fun e w' => Signs (w.heap.size + 1) (signsGo false (spell s.data.toList)) (!endsGo false (spell s.data.toList)) e w' ∧ Below w.heap.size w w' := by
  obtain ⟨ie, hi, hz0, hz1, hz2⟩ := info_parts info74
  go_enter Try.func65, Try.ntmps65
  go_wp2
  go_loopw [4, 5] (fun v v5 wr => ∃ (pos : Nat) (b : Bool) (xs : List Sg), v5 = .bool b ∧ wr.heap[w.heap.size]? = some (.stringIter s pos) ∧ wr.ownsRow (w.heap.size + 1) 141 2 v xs.length (flatS xs) ∧ Below w.heap.size w wr ∧ Hid (xs ++ signsGo b (spell (s.data.toList.drop pos)) = signsGo false (spell s.data.toList) ∧ endsGo b (spell (s.data.toList.drop pos)) = endsGo false (spell s.data.toList)) ∧ xs.length ≤ pos ∧ pos ≤ s.size) (fun _ _ wr => s.size - wr.iterPos w.heap.size)
  case atStart => exact ⟨0, false, [], rfl, World.iter_heap w s 0, World.ownsRow_nil _ _ _ _, (Below.refl _ _).alloc (Nat.le_refl _) _, ⟨by simp, by simp⟩, by simp, Nat.zero_le _⟩
  case round =>
    obtain ⟨pos, b, xs, rfl, hit, hown, hbw, H, hk, hps⟩ := hrel
    have hpos0 := iterPos_of hit
    by_cases hp : pos < s.size
    · have hnx : ∀ ty, (Instr.next (.pointer (some ⟨w.heap.size, 0, none⟩)) true ty).run Try.prog wr = _ := fun ty => Lib.run_next_any_at wr w.heap.size s pos ty hit hp
      have hwd := width1 s pos
      have hwl := width_le hp
      have hit2 := Lib.iterAt_heap wr w.heap.size s pos (pos + (Utf8.decode s pos).2) hit
      have hbw2 := Lib.below_iterAt hbw (k := w.heap.size) (Nat.le_refl _) s (pos + (Utf8.decode s pos).2)
      have hown2 := ownsRow_iterAt hown (k := w.heap.size) (by omega) s (pos + (Utf8.decode s pos).2)
      have hsp := spell_at hp
      obtain ⟨r, hr⟩ : ∃ r : Int, ((Utf8.decode s pos).1 : Int) = r := ⟨_, rfl⟩
      rw [hr] at hsp
      have HSP := Lib.hid hsp
      obtain ⟨W1, hW1⟩ : ∃ W1, W1 = wr.iterAt w.heap.size s (pos + (Utf8.decode s pos).2) := ⟨_, rfl⟩
      rw [← hW1] at hnx hit2 hbw2 hown2
      rw [hr] at hnx
      have hBlt : w.heap.size < W1.heap.size := (Array.getElem?_eq_some_iff.1 hit2).1
      obtain ⟨p2, hp2⟩ : ∃ p2, pos + (Utf8.decode s pos).2 = p2 := ⟨_, rfl⟩
      rw [hp2] at hit2 hwl HSP
      have hlt2 : pos < p2 := by omega
      clear hW1 hit hown hbw hr hsp hp2 hwd
      by_cases hc : r = 92 ∧ b = false
      · obtain ⟨rfl, rfl⟩ := hc
        have H2 := Lib.hid (show xs ++ signsGo true (spell (s.data.toList.drop p2)) = signsGo false (spell s.data.toList) ∧ endsGo true (spell (s.data.toList.drop p2)) = endsGo false (spell s.data.toList) by
          have := H.out
          rw [HSP.out] at this
          simpa [signsGo, endsGo] using this)
        clear H HSP
        go_wp2
        go_roundw
        case rel => exact ⟨p2, true, xs, rfl, hit2, hown2, hbw2, H2, by omega, hwl⟩
        case measure => rw [iterPos_of hit2, hpos0]; omega
      · have hnot : (r == 92 && !b) = false := by
          cases b with
          | true => simp
          | false => simp at hc ⊢; exact hc
        have H2 := Lib.hid (show (xs ++ [(r, !b)]) ++ signsGo false (spell (s.data.toList.drop p2)) = signsGo false (spell s.data.toList) ∧ endsGo false (spell (s.data.toList.drop p2)) = endsGo false (spell s.data.toList) by
          have := H.out
          rw [HSP.out] at this
          simp only [signsGo, endsGo, hnot] at this
          simpa using this)
        have HB := Lib.hid hnot
        clear H HSP hnot
        rcases (show ((r == 92) = false) ∨ (r = 92 ∧ b = true) by
          cases h : (r == 92) with
          | false => exact .inl rfl
          | true => exact .inr ⟨by simpa using h, by
              cases b with
              | true => rfl
              | false => exact absurd ⟨by simpa using h, rfl⟩ hc⟩) with hy | ⟨rfl, rfl⟩
        all_goals
          clear hc
          go_wp2_with (at_builtin; go_must (refine wpList_append_own _ rfl _ _ 121 rfl (w.heap.size + 1) 141 ie (.agg #[.int .i32 0, .bool false]) 2 8 Try.underlying121 hi hz0 hz1 hz2 rfl (by decide) _ _ _ rfl (hown2.alloc _) ⟨W1.heap.size, 0, none⟩ 1 1 [.int .i32 _, .bool _] rfl rfl (cells_2 _ _ _ _) (one_2s _ _) (by unfold maxLen; omega) (by omega) (by simp; omega) ?_); intro v' w3 hown' hgrow3 hnil3)
          replace hgrow3 : World.grownBy _ w3 u4.ownBlock := hgrow3
          have hit3 : w3.heap[w.heap.size]? = some (.stringIter s p2) := by
            rw [hgrow3.block w.heap.size (by simp; omega) (fun h => by have := (hown2.lt _ h.symm).1; omega), Below.heap_alloc _ _ _ hBlt]; exact hit2
          have hbw3 : Below w.heap.size w w3 := Below.grown (hbw2.alloc (by omega) _) hgrow3 (by simp; omega) (fun j hj => by have := (hown2.lt _ hj).1; omega)
          have ho3 := own_snocS hown'
          clear hown' hgrow3 hnil3
          go_roundw
          case rel => exact ⟨p2, false, _, rfl, hit3, ho3, hbw3, H2, by simp; omega, hwl⟩
          case measure => rw [iterPos_of hit3, hpos0]; omega
    · have hnx : ∀ ty, (Instr.next (.pointer (some ⟨w.heap.size, 0, none⟩)) true ty).run Try.prog wr = _ := fun ty => Lib.run_next_end_at wr w.heap.size s pos ty hit hp
      have H2 := Lib.hid (show xs = signsGo false (spell s.data.toList) ∧ b = endsGo false (spell s.data.toList) by
        have := H.out
        rw [spell_end hp] at this
        simpa [signsGo, endsGo] using this)
      clear H
      go_wp2
      go_ret2
      refine ⟨?_, hbw⟩
      rw [← H2.out.1, ← H2.out.2]
      exact ⟨_, rfl, hown⟩

theorem rune_ok (t : List UInt8) : okR (rune t) := by
  unfold rune
  rw [Lib.decodeL_N]
  have := Lib.decodeN_valid t.length (t.getD 0 0).toNat (t.getD 1 0).toNat (t.getD 2 0).toNat (t.getD 3 0).toNat (UInt8.toNat_lt _)
  unfold okR
  omega
theorem spell_ok (l : List UInt8) : ∀ r ∈ spell l, okR r := by
  intro r hr
  unfold spell at hr
  obtain ⟨t, _, rfl⟩ := List.mem_map.1 hr
  exact rune_ok t
theorem signs_mem : ∀ (b : Bool) (rs : List Int) (s : Sg), s ∈ signsGo b rs → s.1 ∈ rs
  | _, [], s, h => by simp [signsGo] at h
  | b, r :: rs, s, h => by
    rw [signsGo] at h
    split at h
    · exact List.mem_cons_of_mem _ (signs_mem true rs s h)
    · rcases List.mem_cons.1 h with rfl | h
      · exact List.mem_cons_self
      · exact List.mem_cons_of_mem _ (signs_mem false rs s h)
theorem rd_of_own {w : World} {B : Nat} {v : Value} {xs : List Sg} (h : w.ownsRow B 141 2 v xs.length (flatS xs)) (hm : xs.length ≤ 1000000) (hok : ∀ s ∈ xs, okR s.1) : Rd (w.alloc (.cells #[v] 125)) w.heap.size xs := by
  have hb : (w.alloc (.cells #[v] 125)).heap[w.heap.size]? = some (.cells #[v] 125 (0, 0)) := Array.getElem?_push_size
  rcases h.2 with ⟨rfl, h0⟩ | ⟨g, cap, cur, rfl, hB, hg, hc, _⟩
  · have : xs = [] := List.eq_nil_of_length_eq_zero h0
    subst this
    exact ⟨_, hb, none, 0, rfl, Nat.le_refl _, ⟨hm, hok⟩, .inl rfl⟩
  · have hl := (Array.getElem?_eq_some_iff.1 hg).1
    refine ⟨_, hb, _, cap, rfl, hc, ⟨hm, hok⟩, .inr ⟨g, 0, rfl, hl, ?_⟩⟩
    have hs : SigAt w g 0 xs := by
      refine ⟨hl, fun j x hx => ?_, fun j x hx => ?_⟩
      · have c1 := h.cells (g := g) rfl _ _ (flatS_at xs j x hx).1
        simpa only [Addr.add_lit] using c1
      · have c1 := h.cells (g := g) rfl _ _ (flatS_at xs j x hx).2
        simpa only [Addr.add_lit, Nat.add_assoc] using c1
    exact hs.keep (Below.heap_alloc _ _ _ hl)
/-- What read leaves. -/
def ReadRes (w : World) (r : Option Pt) (e : Ending) (w' : World) : Prop := match r with
  | some x => ∃ v, e = .returned (.tuple #[v, .bool true]) ∧ Tree w' (fun b => w.heap.size ≤ b) v x ∧ Below w.heap.size w w'
  | none => ∃ v, e = .returned (.tuple #[v, .bool false]) ∧ Below w.heap.size w w'
theorem below_of_grown {w w1 w' : World} {bd : Nat} (hb : Below w.heap.size w w1) (hg : w1.grownBy w' (some bd)) (h : w.heap.size ≤ bd) : Below w.heap.size w w' :=
  ⟨hg.os.trans hb.os, hg.tape.trans hb.tape, hg.output.trans hb.output, Nat.le_trans hb.size hg.size, fun k hk => (hg.block k (Nat.lt_of_lt_of_le hk hb.size) (by simp; omega)).trans (hb.block k hk)⟩

set_option maxHeartbeats 2000000 in
set_option maxRecDepth 100000 in
theorem read_any (s : ByteArray) (w : World) (hs : s.size ≤ 1000000) : Calls Try.prog 57 #[.string s] w (ReadRes w (readP (spell s.data.toList))) := by
  have HSG := Lib.hid (signs_any s w hs)
  have hlen : (signsGo false (spell s.data.toList)).length ≤ 1000000 := by
    have h1 := signsGo_len false (spell s.data.toList)
    have h2 : (spell s.data.toList).length ≤ s.data.toList.length := by unfold spell; rw [List.length_map]; exact sufs_len _
    rw [← Lib.size_eq] at h2
    omega
  have hok : ∀ x ∈ signsGo false (spell s.data.toList), okR x.1 := fun x hx => spell_ok _ _ (signs_mem _ _ _ hx)
  have hrp : readP (spell s.data.toList) = if endsGo false (spell s.data.toList) then none else match choiceP (signsGo false (spell s.data.toList)) [] with
    | none => none
    | some (c, m) => if m.isEmpty then some (.choice c) else none := rfl
  generalize signsGo false (spell s.data.toList) = sg at HSG hlen hok hrp
  generalize endsGo false (spell s.data.toList) = en at HSG hrp
  generalize readP (spell s.data.toList) = res at hrp
  have HRP := Lib.hid hrp
  have HOK := Lib.hid hok
  clear hrp hok
  cases en with
  | true =>
    have HR := Lib.hid (show res = none from HRP.out)
    go_enter Try.func57, Try.ntmps57
    go_wp2_with fail
    refine HSG.out.mono ?_
    rintro e w1 ⟨⟨v, rfl, hown⟩, hb⟩
    have HB := Lib.hid hb
    clear hown hb
    go_wp2
    go_ret2
    rw [HR.out]
    exact ⟨_, rfl, HB.out⟩
  | false =>
    go_enter Try.func57, Try.ntmps57
    go_wp2_with fail
    refine HSG.out.mono ?_
    rintro e w1 ⟨⟨v, rfl, hown⟩, hb⟩
    have HB := Lib.hid hb
    have HRD := Lib.hid (rd_of_own hown hlen HOK.out)
    have HCH := Lib.hid (choice_any sg _ _ HRD.out)
    obtain ⟨ov, cv, rfl⟩ := own_shape hown
    have HB2 := Lib.hid (fun w' (hg : (w1.alloc (.cells #[.slice ov sg.length cv] 125)).grownBy w' (some w1.heap.size)) => below_of_grown (hb.alloc hb.size (.cells #[.slice ov sg.length cv] 125)) hg hb.size)
    have hsz := hb.size
    clear hb hown
    cases hch : choiceP sg [] with
    | none =>
      have HR := Lib.hid (show res = none by rw [HRP.out, hch]; rfl)
      rw [hch] at HCH
      clear hch
      go_wp2_with fail
      refine HCH.out.mono ?_
      rintro e w2 ⟨u, rfl, hg2⟩
      have HG := Lib.hid (HB2.out _ hg2)
      clear hg2
      go_wp2_with fail
      go_quiet (fail)
      go_wp2
      go_ret2
      rw [HR.out]
      exact ⟨_, rfl, HG.out.trans ((drewN_below _ _).mono HG.out.size)⟩
    | some p =>
      obtain ⟨c, m⟩ := p
      have HR := Lib.hid (show res = if m.isEmpty then some (.choice c) else none by rw [HRP.out, hch]; rfl)
      rw [hch] at HCH
      clear hch
      cases m with
      | nil =>
        go_wp2_with fail
        refine HCH.out.mono ?_
        rintro e w2 ⟨u, rfl, ht2, hr2, hg2⟩
        have HG := Lib.hid (HB2.out _ hg2)
        have HT := Lib.hid ht2
        obtain ⟨o, cap, hcell, _⟩ := hr2.cell
        replace hcell : w2.cell? ⟨w1.heap.size, 0, none⟩ = some (.slice o 0 cap) := hcell
        clear hg2 ht2 hr2
        go_wp2_with fail
        go_quiet (fail)
        go_wp2
        go_ret2
        rw [HR.out]
        exact ⟨_, rfl, HT.out.keep fun b hb hl => ⟨rfl, by have := World.size_alloc w1 (Obj.cells #[Value.slice ov sg.length cv] 125); omega⟩, HG.out.trans ((drewN_below _ _).mono HG.out.size)⟩
      | cons s1 m1 =>
        go_wp2_with fail
        refine HCH.out.mono ?_
        rintro e w2 ⟨u, rfl, ht2, hr2, hg2⟩
        have HG := Lib.hid (HB2.out _ hg2)
        obtain ⟨o, cap, hcell, hm, _, _⟩ := hr2.cell
        obtain ⟨k, hk⟩ : ∃ k, (s1 :: m1).length = k := ⟨_, rfl⟩
        rw [hk] at hcell hm
        have hk0 : 0 < k := by rw [← hk]; simp
        have hne : ((k : Int) == 0) = false := by simp; omega
        clear hg2 ht2 hr2 hk
        go_wp2_with fail
        go_quiet (fail)
        go_wp2
        go_ret2
        rw [HR.out]
        exact ⟨_, rfl, HG.out.trans ((drewN_below _ _).mono HG.out.size)⟩
end Go.Proofs.Ytmidpekkomhogaa.Pat
end

section
/- Patterns, plain: parts laid into a graph of atoms. No program in it. -/

namespace Go.Proofs.Ytmidpekkomhogaa.Pat

/-- How one comes into a part, and out of it. -/
structure Eg where
  none : Bool
  first : Nat
  last : Nat
/-- The atoms, and which ones may be right behind each. -/
structure Gr where
  atoms : List Pt
  thn : List Nat

def linkF (thn : List Nat) (a b : Nat) : List Nat := thn.mapIdx fun i t => if a.testBit i then t ||| b else t
def layAtomF (x : Pt) (g : Gr) : Eg × Gr := (⟨false, 2 ^ g.atoms.length, 2 ^ g.atoms.length⟩, ⟨g.atoms ++ [x], g.thn ++ [0]⟩)
def altF (e e1 : Eg) : Eg := ⟨e.none || e1.none, e.first ||| e1.first, e.last ||| e1.last⟩
def seqF (e e1 : Eg) : Eg := ⟨e.none && e1.none, if e.none then e.first ||| e1.first else e.first, if e1.none then e.last ||| e1.last else e1.last⟩
def timesG (a b : Bool) (p : Eg × Gr) : Eg × Gr := (⟨p.1.none || a, p.1.first, p.1.last⟩, if b then ⟨p.2.atoms, linkF p.2.thn p.1.last p.1.first⟩ else p.2)
mutual
def layF : Pt → Gr → Eg × Gr
  | .choice l, g => layAlts l ⟨false, 0, 0⟩ g
  | .chain l, g => laySeq l ⟨true, 0, 0⟩ g
  | .times x a b, g => timesG a b (layF x g)
  | .only r, g => layAtomF (.only r) g
  | .cls n xs, g => layAtomF (.cls n xs) g
  | .dot, g => layAtomF .dot g
def layAlts : List Pt → Eg → Gr → Eg × Gr
  | [], e, g => (e, g)
  | x :: xs, e, g => layAlts xs (altF e (layF x g).1) (layF x g).2
def laySeq : List Pt → Eg → Gr → Eg × Gr
  | [], e, g => (e, g)
  | x :: xs, e, g => laySeq xs (seqF e (layF x g).1) ⟨(layF x g).2.atoms, linkF (layF x g).2.thn e.last (layF x g).1.first⟩
end

theorem linkF_len (t : List Nat) (a b : Nat) : (linkF t a b).length = t.length := by simp [linkF]
theorem pow_or {a b n : Nat} (ha : a < 2 ^ n) (hb : b < 2 ^ n) : a ||| b < 2 ^ n := Nat.or_lt_two_pow ha hb
theorem pow_mono {a n m : Nat} (ha : a < 2 ^ n) (h : n ≤ m) : a < 2 ^ m := Nat.lt_of_lt_of_le ha (Nat.pow_le_pow_right (by omega) h)

/-- Sizes: as many links as atoms; every mask speaks of atoms that are there. -/
structure GrOk (g : Gr) : Prop where
  len : g.thn.length = g.atoms.length
  small : ∀ t ∈ g.thn, t < 2 ^ g.atoms.length
theorem linkF_small {t : List Nat} {a b n : Nat} (h : ∀ x ∈ t, x < 2 ^ n) (hb : b < 2 ^ n) : ∀ x ∈ linkF t a b, x < 2 ^ n := by
  intro x hx
  unfold linkF at hx
  obtain ⟨i, hi, rfl⟩ := List.mem_mapIdx.1 hx
  split
  · exact pow_or (h _ (List.getElem_mem _)) hb
  · exact h _ (List.getElem_mem _)
theorem layAtomF_ok (x : Pt) (hx : x.size = 1) (g : Gr) (h : GrOk g) : GrOk (layAtomF x g).2 ∧ (layAtomF x g).2.atoms.length = g.atoms.length + x.size ∧ (layAtomF x g).1.first < 2 ^ (g.atoms.length + x.size) ∧ (layAtomF x g).1.last < 2 ^ (g.atoms.length + x.size) := by
  unfold layAtomF
  rw [hx]
  have hp : 2 ^ g.atoms.length < 2 ^ (g.atoms.length + 1) := Nat.pow_lt_pow_right (by omega) (by omega)
  refine ⟨⟨by simp [h.len], fun t ht => ?_⟩, by simp, hp, hp⟩
  rw [List.length_append]
  rcases List.mem_append.1 ht with ht | ht
  · exact pow_mono (h.small t ht) (by simp)
  · simp at ht; subst ht; exact Nat.two_pow_pos _
mutual
theorem layF_ok : ∀ (x : Pt) (g : Gr), GrOk g → GrOk (layF x g).2 ∧ (layF x g).2.atoms.length = g.atoms.length + x.size ∧ (layF x g).1.first < 2 ^ (g.atoms.length + x.size) ∧ (layF x g).1.last < 2 ^ (g.atoms.length + x.size)
  | .choice l, g, h => by
    rw [layF]
    exact layAlts_ok l ⟨false, 0, 0⟩ g h (Nat.two_pow_pos _) (Nat.two_pow_pos _)
  | .chain l, g, h => by
    rw [layF]
    exact laySeq_ok l ⟨true, 0, 0⟩ g h (Nat.two_pow_pos _) (Nat.two_pow_pos _)
  | .times x a b, g, h => by
    rw [layF]
    obtain ⟨h1, h2, h3, h4⟩ := layF_ok x g h
    unfold timesG
    refine ⟨?_, ?_, h3, h4⟩
    · cases b with
      | false => exact h1
      | true =>
        rw [if_pos rfl]
        exact ⟨by rw [linkF_len]; exact h1.len, linkF_small h1.small (by rw [h2]; exact h3)⟩
    · cases b with
      | false => exact h2
      | true => exact h2
  | .only r, g, h => by rw [layF]; exact layAtomF_ok _ rfl g h
  | .cls n xs, g, h => by rw [layF]; exact layAtomF_ok _ rfl g h
  | .dot, g, h => by rw [layF]; exact layAtomF_ok _ rfl g h
theorem layAlts_ok : ∀ (l : List Pt) (e : Eg) (g : Gr), GrOk g → e.first < 2 ^ g.atoms.length → e.last < 2 ^ g.atoms.length → GrOk (layAlts l e g).2 ∧ (layAlts l e g).2.atoms.length = g.atoms.length + sizes l ∧ (layAlts l e g).1.first < 2 ^ (g.atoms.length + sizes l) ∧ (layAlts l e g).1.last < 2 ^ (g.atoms.length + sizes l)
  | [], e, g, h, h1, h2 => ⟨h, by simp [layAlts, sizes], by simpa [layAlts, sizes] using h1, by simpa [layAlts, sizes] using h2⟩
  | x :: xs, e, g, h, h1, h2 => by
    rw [layAlts]
    obtain ⟨k1, k2, k3, k4⟩ := layF_ok x g h
    have := layAlts_ok xs (altF e (layF x g).1) (layF x g).2 k1 (by rw [k2]; exact pow_or (pow_mono h1 (by omega)) k3) (by rw [k2]; exact pow_or (pow_mono h2 (by omega)) k4)
    rw [k2] at this
    simpa [sizes, Nat.add_assoc] using this
theorem laySeq_ok : ∀ (l : List Pt) (e : Eg) (g : Gr), GrOk g → e.first < 2 ^ g.atoms.length → e.last < 2 ^ g.atoms.length → GrOk (laySeq l e g).2 ∧ (laySeq l e g).2.atoms.length = g.atoms.length + sizes l ∧ (laySeq l e g).1.first < 2 ^ (g.atoms.length + sizes l) ∧ (laySeq l e g).1.last < 2 ^ (g.atoms.length + sizes l)
  | [], e, g, h, h1, h2 => ⟨h, by simp [laySeq, sizes], by simpa [laySeq, sizes] using h1, by simpa [laySeq, sizes] using h2⟩
  | x :: xs, e, g, h, h1, h2 => by
    rw [laySeq]
    obtain ⟨k1, k2, k3, k4⟩ := layF_ok x g h
    have ok : GrOk ⟨(layF x g).2.atoms, linkF (layF x g).2.thn e.last (layF x g).1.first⟩ := ⟨by rw [linkF_len]; exact k1.len, linkF_small k1.small (by rw [k2]; exact k3)⟩
    have f1 : (seqF e (layF x g).1).first < 2 ^ (layF x g).2.atoms.length := by
      rw [k2]; unfold seqF; dsimp only; split
      · exact pow_or (pow_mono h1 (by omega)) k3
      · exact pow_mono h1 (by omega)
    have f2 : (seqF e (layF x g).1).last < 2 ^ (layF x g).2.atoms.length := by
      rw [k2]; unfold seqF; dsimp only; split
      · exact pow_or (pow_mono h2 (by omega)) k4
      · exact k4
    have := laySeq_ok xs (seqF e (layF x g).1) ⟨(layF x g).2.atoms, linkF (layF x g).2.thn e.last (layF x g).1.first⟩ ok f1 f2
    dsimp only at this
    rw [k2] at this
    simpa [sizes, Nat.add_assoc] using this
end
end Go.Proofs.Ytmidpekkomhogaa.Pat
end

section
/- Patterns: the graph in memory; an atom is laid. -/

namespace Go.Proofs.Ytmidpekkomhogaa.Pat
open Go.RowKit

theorem info47 : (Try.prog.info? 110).map (fun i => (i.zero, i.size, i.bytes)) = some (some (.int .u64 0), 1, 8) := by kernel_rfl
theorem own_far {w : World} {B C e f n m s : Nat} {v u : Value} {xs ys : List Value} (h : w.ownsRow B e 1 v n xs) (h' : w.ownsRow C f s u m ys) (hef : e ≠ f) : v.ownBlock = none ∨ v.ownBlock ≠ u.ownBlock := by
  rcases h.2 with ⟨rfl, _⟩ | ⟨g, cap, cur, rfl, _, hg, _⟩
  · exact .inl rfl
  · rcases h'.2 with ⟨rfl, _⟩ | ⟨g', cap', cur', rfl, _, hg', _⟩
    · exact .inr (by simp [Value.ownBlock])
    · refine .inr ?_
      simp only [Value.ownBlock, ne_eq, Option.some.injEq]
      rintro rfl
      rw [hg] at hg'
      injection hg' with e1
      injection e1 with _ e2 _
      exact hef e2
def u64s (l : List Nat) : List Value := l.map fun (n : Nat) => .int .u64 (n : Int)
/-- A graph in the block of its pattern. -/
structure GrRow (w : World) (bp : Nat) (va vt : Value) (vs : List Value) (g : Gr) : Prop where
  atoms : w.ownsRow (bp + 1) 102 1 va g.atoms.length vs
  links : w.ownsRow (bp + 1) 110 1 vt g.thn.length (u64s g.thn)
  kids : ∀ (j : Nat) u x, vs[j]? = some u → g.atoms[j]? = some x → Tree w (fun b => b < bp) u x
def Pat (w : World) (bp : Nat) (t va vt a b c : Value) : Prop := w.heap[bp]? = some (.cells #[t, va, vt, a, b, c] 114 (0, 0))
def GrAt (w : World) (bp : Nat) (t a b c : Value) (g : Gr) : Prop := ∃ va vt vs, Pat w bp t va vt a b c ∧ GrRow w bp va vt vs g
theorem Pat.reads {w : World} {bp : Nat} {t va vt a b c : Value} (h : Pat w bp t va vt a b c) : w.cell? ⟨bp, 0, none⟩ = some t ∧ w.cell? ⟨bp, 1, none⟩ = some va ∧ w.cell? ⟨bp, 2, none⟩ = some vt ∧ w.cell? ⟨bp, 3, none⟩ = some a ∧ w.cell? ⟨bp, 4, none⟩ = some b ∧ w.cell? ⟨bp, 5, none⟩ = some c ∧ w.frozen? ⟨bp, 1, none⟩ = false ∧ w.frozen? ⟨bp, 2, none⟩ = false ∧ bp < w.heap.size := by
  have hl := (Array.getElem?_eq_some_iff.1 h).1
  unfold Pat at h
  refine ⟨?_, ?_, ?_, ?_, ?_, ?_, ?_, ?_, hl⟩ <;> simp [World.cell?, World.frozen?, h]
theorem Pat.below {w w' : World} {bp : Nat} {t va vt a b c : Value} (h : Pat w bp t va vt a b c) (hb : Below w.heap.size w w') : Pat w' bp t va vt a b c :=
  (hb.block bp (Array.getElem?_eq_some_iff.1 h).1).trans h
theorem own_below {w w' : World} {B e size n : Nat} {v : Value} {xs : List Value} (h : w.ownsRow B e size v n xs) (hb : Below w.heap.size w w') : w'.ownsRow B e size v n xs :=
  h.kept (row := none) ⟨hb.os, hb.tape, hb.output, hb.size, fun k hk _ => hb.block k hk⟩ (by cases hv : v.ownBlock <;> simp)
theorem Tree.stays {w w' : World} {P : Nat → Prop} {v : Value} {x : Pt} (h : Tree w P v x) (hb : Below w.heap.size w w') : Tree w' P v x :=
  h.keep fun b hp hl => ⟨hb.block b hl, hp⟩
theorem GrRow.below {w w' : World} {bp : Nat} {va vt : Value} {vs : List Value} {g : Gr} (h : GrRow w bp va vt vs g) (hb : Below w.heap.size w w') : GrRow w' bp va vt vs g :=
  ⟨own_below h.atoms hb, own_below h.links hb, fun j u x hu hx => (h.kids j u x hu hx).stays hb⟩
theorem GrAt.below {w w' : World} {bp : Nat} {t a b c : Value} {g : Gr} (h : GrAt w bp t a b c g) (hb : Below w.heap.size w w') : GrAt w' bp t a b c g := by
  obtain ⟨va, vt, vs, h1, h2⟩ := h
  exact ⟨va, vt, vs, h1.below hb, h2.below hb⟩
theorem GrAt.lt {w : World} {bp : Nat} {t a b c : Value} {g : Gr} (h : GrAt w bp t a b c g) : bp < w.heap.size := by
  obtain ⟨va, vt, vs, h1, _⟩ := h
  exact h1.reads.2.2.2.2.2.2.2.2

theorem shl_one {n : Nat} (h : n < 64) : IntKind.u64.wrap ((2 : Int) ^ n) = ((2 ^ n : Nat) : Int) := by
  have h1 : 2 ^ n < 2 ^ 64 := Nat.pow_lt_pow_right (by omega) h
  have h2 : ((2 : Int) ^ n) = ((2 ^ n : Nat) : Int) := by simp
  have h3 : ((2 ^ 64 : Nat) : Int) = 18446744073709551616 := by decide
  rw [IntKind.wrap_u64, h2]
  generalize 2 ^ n = N at h1 ⊢
  generalize 2 ^ 64 = M at h1 h3
  rw [Int.emod_eq_of_lt (by omega) (by omega)]
theorem one_u64 (n : Int) : ∀ v ∈ [Value.int .u64 n], v.oneCell' = true := by
  intro v hv; simp at hv; subst hv; rfl
/-- Behind the first append: the links' row stands, the pattern's block too. -/
theorem Pat.after {w w1 w' : World} {bp : Nat} {t va vt a b c v : Value} (h : Pat w bp t va vt a b c) (hb : Below w.heap.size w w1) (hg : w1.grownBy w' v.ownBlock) (hv : ∀ k, v.ownBlock = some k → bp + 1 ≤ k) : Pat w' bp t va vt a b c := by
  have hl := h.reads.2.2.2.2.2.2.2.2
  refine (hg.block bp (Nat.lt_of_lt_of_le hl hb.size) (fun e => by have := hv bp e.symm; omega)).trans (h.below hb)
theorem Pat.set1 {w : World} {bp : Nat} {t va vt a b c : Value} (h : Pat w bp t va vt a b c) (u : Value) : Pat (w.setCell ⟨bp, 1, none⟩ u) bp t u vt a b c := heap_setCell_same w bp 1 _ 114 u h
theorem Pat.set2 {w : World} {bp : Nat} {t va vt a b c : Value} (h : Pat w bp t va vt a b c) (u : Value) : Pat (w.setCell ⟨bp, 2, none⟩ u) bp t va u a b c := heap_setCell_same w bp 2 _ 114 u h

theorem own_not {w : World} {B e size n k : Nat} {v : Value} {xs : List Value} {cs : Array Value} {t : TypeId} {fr : Nat × Nat} (h : w.ownsRow B e size v n xs) (hk : w.heap[k]? = some (.cells cs t fr)) (hne : t ≠ e) : v.ownBlock ≠ some k := by
  rcases h.2 with ⟨rfl, _⟩ | ⟨g, cap, cur, rfl, _, hg, _⟩
  · simp [Value.ownBlock]
  · simp only [Value.ownBlock, ne_eq, Option.some.injEq]
    rintro rfl
    rw [hg] at hk
    injection hk with e1
    injection e1 with _ e2 _
    exact hne e2.symm
/-- Every block that is no row of parts, none of links, and no pattern's own, is what it was. -/
def Tys (w w' : World) : Prop := ∀ (k : Nat) (cs : Array Value) (ty : TypeId) (fr : Nat × Nat), w.heap[k]? = some (.cells cs ty fr) → ty ≠ 102 → ty ≠ 110 → ty ≠ 114 → w'.heap[k]? = some (.cells cs ty fr)
theorem Tys.refl (w : World) : Tys w w := fun _ _ _ _ h _ _ _ => h
theorem Tys.trans {a b c : World} (h : Tys a b) (k : Tys b c) : Tys a c := fun j cs ty fr hj h1 h2 h3 => k j cs ty fr (h j cs ty fr hj h1 h2 h3) h1 h2 h3
theorem Tys.of_below {w w' : World} (h : Below w.heap.size w w') : Tys w w' := fun j _ _ _ hj _ _ _ => (h.block j (Array.getElem?_eq_some_iff.1 hj).1).trans hj
theorem Tys.of_grown {w w' : World} {B e s n : Nat} {v : Value} {xs : List Value} (h : w.ownsRow B e s v n xs) (hg : w.grownBy w' v.ownBlock) (he : e = 102 ∨ e = 110) : Tys w w' := by
  intro j cs ty fr hj h1 h2 h3
  refine (hg.block j (Array.getElem?_eq_some_iff.1 hj).1 (fun e2 => ?_)).trans hj
  exact own_not h hj (by rcases he with rfl | rfl <;> assumption) e2.symm
theorem Tys.of_set {w : World} {bp i : Nat} {cs : Array Value} {u : Value} (h : w.heap[bp]? = some (.cells cs 114 (0, 0))) : Tys w (w.setCell ⟨bp, i, none⟩ u) := by
  intro j cs' ty fr hj h1 h2 h3
  refine (heap_setCell_other _ _ _ _ (fun e => ?_)).trans hj
  have e2 : j = bp := e
  subst e2
  rw [h] at hj
  injection hj with e1
  injection e1 with _ e3 _
  exact h3 e3.symm
theorem Tys.setNew {w0 w : World} (h : Tys w0 w) {k : Nat} (hk : w0.heap.size ≤ k) (i : Nat) (u : Value) : Tys w0 (w.setCell ⟨k, i, none⟩ u) := by
  intro j cs ty fr hj h1 h2 h3
  have hl := (Array.getElem?_eq_some_iff.1 hj).1
  exact (heap_setCell_other _ _ _ _ (fun e => by have e2 : j = k := e; omega)).trans (h j cs ty fr hj h1 h2 h3)
/-- A box of three cells that the call has made. -/
def Box3 (w : World) (k : Nat) (a b c : Value) (t : TypeId) : Prop := w.heap[k]? = some (.cells #[a, b, c] t (0, 0))
theorem Box3.reads {w : World} {k : Nat} {a b c : Value} {t : TypeId} (h : Box3 w k a b c t) : w.cell? ⟨k, 0, none⟩ = some a ∧ w.cell? ⟨k, 1, none⟩ = some b ∧ w.cell? ⟨k, 2, none⟩ = some c ∧ w.frozen? ⟨k, 0, none⟩ = false ∧ w.frozen? ⟨k, 1, none⟩ = false ∧ w.frozen? ⟨k, 2, none⟩ = false := by
  unfold Box3 at h
  refine ⟨?_, ?_, ?_, ?_, ?_, ?_⟩ <;> simp [World.cell?, World.frozen?, h]
/-- Behind the append of the atom. -/
structure Lay1 (w w5 : World) (bp : Nat) (t a b c : Value) (va vt v' : Value) (n : Nat) (ks ls : List Value) : Prop where
  pat : Pat w5 bp t va vt a b c
  res : Box3 w5 w.heap.size (.bool false) (.int .u64 0) (.int .u64 0) 112
  atoms : w5.ownsRow (bp + 1) 102 1 v' (n + 1) ks
  links : w5.ownsRow (bp + 1) 110 1 vt n ls
  below : Below bp w w5
  tys : Tys w w5
  lt : bp < w.heap.size
theorem lay_first {w w5 : World} {bp n : Nat} {t a b c va vt v v' u : Value} {vs ls : List Value} (hp : Pat w bp t va vt a b c) (ha : w.ownsRow (bp + 1) 102 1 v n vs) (hl : w.ownsRow (bp + 1) 110 1 vt n ls)
    (ho : w5.ownsRow (bp + 1) 102 1 v' (n + 1) (vs ++ [u])) (hg : ((w.alloc (Obj.cells #[Value.bool false, Value.int .u64 0, Value.int .u64 0] 112)).alloc (Obj.cells #[u] 102)).grownBy w5 v.ownBlock) : Lay1 w w5 bp t a b c va vt v' n (vs ++ [u]) ls := by
  have hlt := hp.reads.2.2.2.2.2.2.2.2
  have hB : Below w.heap.size w ((w.alloc (Obj.cells #[Value.bool false, Value.int .u64 0, Value.int .u64 0] 112)).alloc (Obj.cells #[u] 102)) := ((Below.refl _ _).alloc (Nat.le_refl _) _).alloc (by simp) _
  have hv : ∀ k, v.ownBlock = some k → bp + 1 ≤ k ∧ k < w.heap.size := fun k hk => ha.lt k hk
  refine ⟨hp.after hB hg (fun k hk => (hv k hk).1), ?_, ho, (own_below hl hB).kept hg (own_far hl ha (by decide)), ?_, (Tys.of_below hB).trans (Tys.of_grown (own_below ha hB) hg (.inl rfl)), hlt⟩
  · unfold Box3
    rw [hg.block w.heap.size (by simp; omega) (fun e => by have := (hv _ e.symm).2; omega), Below.heap_alloc _ _ _ (by simp)]
    exact Array.getElem?_push_size
  · exact Below.grown (hB.mono (Nat.le_of_lt hlt)) hg (by have := hB.size; omega) (fun k hk => by have := (hv k hk).1; omega)
theorem Lay1.second {w w5 : World} {bp n : Nat} {t a b c va vt v' : Value} {ks ls : List Value} (h : Lay1 w w5 bp t a b c va vt v' n ks ls) (o : Obj) : ((w5.setCell ⟨bp, 1, none⟩ v').alloc o).ownsRow (bp + 1) 110 1 vt n ls :=
  (ownsRow_setCell_below h.links (a := ⟨bp, 1, none⟩) (Nat.lt_succ_self bp) v').alloc o
/-- Behind both appends. -/
structure Lay2 (w w7 : World) (bp : Nat) (t a b c : Value) (vt v' v'' : Value) (n : Nat) (ks ls : List Value) : Prop where
  pat : Pat w7 bp t v' vt a b c
  res : Box3 w7 w.heap.size (.bool false) (.int .u64 0) (.int .u64 0) 112
  atoms : w7.ownsRow (bp + 1) 102 1 v' (n + 1) ks
  links : w7.ownsRow (bp + 1) 110 1 v'' (n + 1) ls
  below : Below bp w w7
  tys : Tys w w7
  lt : bp < w.heap.size
theorem lay_second {w w5 w7 : World} {bp n : Nat} {t a b c va vt v v' v'' u : Value} {ks ls : List Value} (h : Lay1 w w5 bp t a b c va vt v' n ks ls) (hv : vt = v)
    (ho : w7.ownsRow (bp + 1) 110 1 v'' (n + 1) (ls ++ [u])) (hg : ((w5.setCell ⟨bp, 1, none⟩ v').alloc (Obj.cells #[u] 110)).grownBy w7 v.ownBlock) : Lay2 w w7 bp t a b c vt v' v'' n ks (ls ++ [u]) := by
  subst hv
  have hlt := h.lt
  have hs5 : w.heap.size < w5.heap.size := (Array.getElem?_eq_some_iff.1 h.res).1
  have hbl : ∀ k, vt.ownBlock = some k → bp + 1 ≤ k ∧ k < w5.heap.size := fun k hk => h.links.lt k hk
  have hW : (w5.setCell ⟨bp, 1, none⟩ v').heap.size = w5.heap.size := by simp [World.setCell]
  have hB : Below (w5.setCell ⟨bp, 1, none⟩ v').heap.size (w5.setCell ⟨bp, 1, none⟩ v') ((w5.setCell ⟨bp, 1, none⟩ v').alloc (Obj.cells #[u] 110)) := (Below.refl _ _).alloc (Nat.le_refl _) _
  refine ⟨(h.pat.set1 v').after hB hg (fun k hk => (hbl k hk).1), ?_, ?_, ho, ?_, h.tys.trans ((Tys.of_set h.pat).trans ((Tys.of_below hB).trans (Tys.of_grown (own_below (ownsRow_setCell_below h.links (a := ⟨bp, 1, none⟩) (Nat.lt_succ_self bp) v') hB) hg (.inr rfl)))), hlt⟩
  · unfold Box3
    rw [hg.block w.heap.size (by rw [World.size_alloc, hW]; omega) (fun e => own_not h.links h.res (by decide) e.symm), Below.heap_alloc _ _ _ (by rw [hW]; exact hs5), heap_setCell_other _ _ _ _ (by show w.heap.size ≠ bp; omega)]
    exact h.res
  · exact (own_below (ownsRow_setCell_below h.atoms (a := ⟨bp, 1, none⟩) (Nat.lt_succ_self bp) v') hB).kept hg (own_far h.atoms h.links (by decide))
  · have h1 : Below bp w (w5.setCell ⟨bp, 1, none⟩ v') := h.below.setCell (Nat.le_refl _) _
    exact Below.grown (h1.alloc (by rw [hW]; omega) _) hg (by rw [World.size_alloc, hW]; omega) (fun k hk => by have := (hbl k hk).1; omega)

theorem Tree.under {w w' : World} {bp : Nat} {v : Value} {x : Pt} (h : Tree w (fun b => b < bp) v x) (hb : Below bp w w') : Tree w' (fun b => b < bp) v x :=
  h.keep fun b hp _ => ⟨hb.block b hp, hp⟩
theorem lay_done {w w7 : World} {bp n : Nat} {t a b c va vt vt0 v' v'' u p q r : Value} {vs : List Value} {g : Gr} {x : Pt} (h : Lay2 w w7 bp t a b c vt0 v' v'' n (vs ++ [u]) (u64s g.thn ++ [.int .u64 0])) (hr : GrRow w bp va vt vs g) (ht : Tree w (fun b => b < bp) u x) (hn : g.atoms.length = n) (hn3 : g.thn.length = n) :
    GrAt ((((w7.setCell ⟨bp, 2, none⟩ v'').setCell ⟨w.heap.size, 0, none⟩ p).setCell ⟨w.heap.size, 1, none⟩ q).setCell ⟨w.heap.size, 2, none⟩ r) bp t a b c (layAtomF x g).2 ∧ Below bp w ((((w7.setCell ⟨bp, 2, none⟩ v'').setCell ⟨w.heap.size, 0, none⟩ p).setCell ⟨w.heap.size, 1, none⟩ q).setCell ⟨w.heap.size, 2, none⟩ r) ∧ Tys w ((((w7.setCell ⟨bp, 2, none⟩ v'').setCell ⟨w.heap.size, 0, none⟩ p).setCell ⟨w.heap.size, 1, none⟩ q).setCell ⟨w.heap.size, 2, none⟩ r) := by
  have hlt := h.lt
  have hB : Below bp w ((((w7.setCell ⟨bp, 2, none⟩ v'').setCell ⟨w.heap.size, 0, none⟩ p).setCell ⟨w.heap.size, 1, none⟩ q).setCell ⟨w.heap.size, 2, none⟩ r) :=
    (((h.below.setCell (Nat.le_refl _) _).setCell (Nat.le_of_lt hlt) _).setCell (Nat.le_of_lt hlt) _).setCell (Nat.le_of_lt hlt) _
  refine ⟨⟨v', v'', vs ++ [u], ?_, ?_, ?_, ?_⟩, hB, (((h.tys.trans (Tys.of_set h.pat)).setNew (Nat.le_refl _) _ _).setNew (Nat.le_refl _) _ _).setNew (Nat.le_refl _) _ _⟩
  · have h2 := h.pat.set2 v''
    unfold Pat at h2 ⊢
    rw [heap_setCell_other _ _ _ _ (by show bp ≠ w.heap.size; omega), heap_setCell_other _ _ _ _ (by show bp ≠ w.heap.size; omega), heap_setCell_other _ _ _ _ (by show bp ≠ w.heap.size; omega)]
    exact h2
  · have h2 := ownsRow_setCell_below h.atoms (a := ⟨bp, 2, none⟩) (Nat.lt_succ_self bp) v''
    have hne : v'.ownBlock ≠ some w.heap.size := own_not h.atoms h.res (by decide)
    have h3 := ownsRow_setCell_other (ownsRow_setCell_other (ownsRow_setCell_other h2 (a := ⟨w.heap.size, 0, none⟩) hne p) (a := ⟨w.heap.size, 1, none⟩) hne q) (a := ⟨w.heap.size, 2, none⟩) hne r
    have e : (layAtomF x g).2.atoms.length = n + 1 := by simp [layAtomF, hn]
    rw [e]; exact h3
  · have h2 := ownsRow_setCell_below h.links (a := ⟨bp, 2, none⟩) (Nat.lt_succ_self bp) v''
    have hne : v''.ownBlock ≠ some w.heap.size := own_not h.links h.res (by decide)
    have h3 := ownsRow_setCell_other (ownsRow_setCell_other (ownsRow_setCell_other h2 (a := ⟨w.heap.size, 0, none⟩) hne p) (a := ⟨w.heap.size, 1, none⟩) hne q) (a := ⟨w.heap.size, 2, none⟩) hne r
    have e : (layAtomF x g).2.thn.length = n + 1 := by simp [layAtomF, hn3]
    have e2 : u64s (layAtomF x g).2.thn = u64s g.thn ++ [.int .u64 0] := by simp [layAtomF, u64s]
    rw [e, e2]; exact h3
  · intro j uu y hu hy
    have hlen : vs.length = g.atoms.length := by have := hr.atoms.1; omega
    have hy2 : (g.atoms ++ [x])[j]? = some y := hy
    by_cases hj : j < g.atoms.length
    · rw [List.getElem?_append_left (by omega)] at hu
      rw [List.getElem?_append_left hj] at hy2
      exact (hr.kids j uu y hu hy2).under hB
    · rw [List.getElem?_append_right (by omega)] at hu
      rw [List.getElem?_append_right (by omega)] at hy2
      by_cases h0 : j = g.atoms.length
      · subst h0
        simp [hlen] at hu hy2
        subst hu; subst hy2
        exact ht.under hB
      · obtain ⟨k, hk2⟩ : ∃ k, j - g.atoms.length = k + 1 := ⟨j - g.atoms.length - 1, by omega⟩
        rw [hk2] at hy2
        simp at hy2

set_option maxHeartbeats 4000000 in
set_option maxRecDepth 100000 in
theorem layAtom_any (bp : Nat) (t a b c : Value) (g : Gr) (v : Value) (x : Pt) (w : World) (h : GrAt w bp t a b c g) (ht : Tree w (fun b => b < bp) v x) (hn : g.atoms.length < 64) (hok : GrOk g) :
    Calls Try.prog 70 #[.pointer (some ⟨bp, 1, none⟩), v] w fun e w' => e = .returned (.agg #[.bool false, .int .u64 ((2 ^ g.atoms.length : Nat) : Int), .int .u64 ((2 ^ g.atoms.length : Nat) : Int)]) ∧ GrAt w' bp t a b c (layAtomF x g).2 ∧ Below bp w w' ∧ Tys w w' := by
  obtain ⟨ia, hi, hz0, hz1, hz2⟩ := info_parts info38
  obtain ⟨it, hj, hy0, hy1, hy2⟩ := info_parts info47
  obtain ⟨va, vt, vs, hp, hr⟩ := h
  obtain ⟨oa, ca, hva⟩ := own_shape hr.atoms
  obtain ⟨ot, ct, hvt⟩ := own_shape hr.links
  obtain ⟨p0, p1, p2, _, _, _, f1, f2, hlt⟩ := hp.reads
  obtain ⟨tv, uv, rfl⟩ := ht.iface
  obtain ⟨n, hn2⟩ : ∃ n, g.atoms.length = n := ⟨_, rfl⟩
  have hn3 : g.thn.length = n := by rw [hok.len]; exact hn2
  have HN := Lib.hid hn2
  have HN3 := Lib.hid hn3
  have HR := Lib.hid hr
  have HT := Lib.hid ht
  have HP := Lib.hid hp
  rw [hva, hn2] at p1
  rw [hvt, hn3] at p2
  rw [hn2] at hn
  rw [hn2]
  have hsh := shl_one hn
  obtain ⟨N, hN⟩ : ∃ N : Nat, 2 ^ n = N := ⟨_, rfl⟩
  rw [hN] at hsh
  rw [hN]
  have HNN := Lib.hid hN
  have hoa := hr.atoms
  have hot := hr.links
  rw [hva, hn2] at hoa
  rw [hvt, hn3] at hot
  have HOA := Lib.hid hoa
  have HOT := Lib.hid hot
  have HOT0 := Lib.hid (show w.ownsRow (bp + 1) 110 1 vt n (u64s g.thn) by rw [hvt, hn3]; exact hot)
  have HVT2 := Lib.hid (show vt = .slice ot n ct by rw [hvt, hn3])
  have HFAR := Lib.hid (own_far hoa hot (by decide))
  have HFAR2 := Lib.hid (own_far hot hoa (by decide))
  have HVA := Lib.hid hva
  have HVT := Lib.hid hvt
  clear hr ht hp p0 hn2 hn3 hN hva hvt hoa hot
  have hHA := (HOA.out.alloc (Obj.cells #[Value.bool false, Value.int .u64 0, Value.int .u64 0] 112)).alloc (Obj.cells #[.iface tv uv] 102)
  have HOA2 := Lib.hid hHA
  clear hHA
  go_enter Try.func70, Try.ntmps70
  go_wp2_with (at_builtin; first
    | (refine wpList_append_keeps _ rfl _ _ 105 rfl (bp + 1) 102 ia .nilIface 1 16 Try.underlying105 hi hz0 hz1 hz2 rfl (by decide) _ _ _ rfl HOA2.out ⟨w.heap.size + 1, 0, none⟩ 1 1 [.iface tv uv] rfl rfl (cell_1k _ _ _ _ (by simp)) (one_iface _ _) (by unfold maxLen; omega) (by omega) (by simp; omega) ?_; intro v' w5 hown' hgrow' hblk' _; obtain ⟨o1, c1, hv1⟩ := own_shape hown'; subst hv1; have A5 := Lib.hid (lay_first HP.out HOA.out HOT0.out hown' hgrow'); clear hown' hgrow' hblk' p1 p2 f1 f2; obtain ⟨p0, p1, p2, _, _, _, f1, f2, _⟩ := A5.out.pat.reads; obtain ⟨x0, x1, x2, y0, y1, y2⟩ := A5.out.res.reads; rw [HVT2.out] at p2)
    | (refine wpList_append_keeps _ rfl _ _ 106 rfl (bp + 1) 110 it (.int .u64 0) 1 8 Try.underlying106 hj hy0 hy1 hy2 rfl (by decide) _ _ _ rfl (HVT2.out ▸ A5.out.second _) ⟨w5.heap.size, 0, none⟩ 1 1 [.int .u64 0] rfl rfl (cell_1k _ _ _ _ (by simp [World.setCell])) (one_u64 _) (by unfold maxLen; omega) (by omega) (by have := A5.out.lt; have := (Array.getElem?_eq_some_iff.1 A5.out.res).1; simp; omega) ?_; intro v'' w7 hown'' hgrow'' hblk'' _; obtain ⟨o2, c2, hv2⟩ := own_shape hown''; subst hv2; have A7 := Lib.hid (lay_second A5.out HVT2.out hown'' hgrow''); clear hown'' hgrow'' hblk'' p1 p2 f1 f2 x0 x1 x2 y0 y1 y2; obtain ⟨p0, p1, p2, _, _, _, f1, f2, _⟩ := A7.out.pat.reads; obtain ⟨x0, x1, x2, y0, y1, y2⟩ := A7.out.res.reads))
  have hne : bp ≠ w.heap.size := by omega
  obtain ⟨k1, k2⟩ := lay_done (p := .bool false) (q := .int .u64 N) (r := .int .u64 N) A7.out HR.out HT.out HN.out HN3.out
  refine bodyPost_ret (v := .agg #[.bool false, .int .u64 N, .int .u64 N]) (by simp [results, Try.results70, go_sem, x0, x1, x2]) rfl ⟨rfl, k1, k2⟩
end Go.Proofs.Ytmidpekkomhogaa.Pat
end

section
/- Patterns: what may be right behind what. -/

namespace Go.Proofs.Ytmidpekkomhogaa.Pat
open Go.RowKit

/-- The first k links are done. -/
def mixL (t : List Nat) (a b k : Nat) : List Nat := (linkF t a b).take k ++ t.drop k
theorem mixL_len (t : List Nat) (a b k : Nat) : (mixL t a b k).length = t.length := by
  unfold mixL
  rw [List.length_append, List.length_take, List.length_drop, linkF_len]; omega
theorem mixL_zero (t : List Nat) (a b : Nat) : mixL t a b 0 = t := by simp [mixL]
theorem mixL_end (t : List Nat) (a b k : Nat) (h : t.length ≤ k) : mixL t a b k = linkF t a b := by
  unfold mixL
  rw [List.take_of_length_le (by rw [linkF_len]; exact h), List.drop_eq_nil_of_le h, List.append_nil]
theorem linkF_at (t : List Nat) (a b i : Nat) (h : i < t.length) : (linkF t a b)[i]? = some (if a.testBit i then t[i] ||| b else t[i]) := by
  unfold linkF
  rw [List.getElem?_mapIdx, List.getElem?_eq_getElem h]; rfl
theorem mixL_at (t : List Nat) (a b k : Nat) (h : k < t.length) : (mixL t a b k)[k]? = some t[k] := by
  unfold mixL
  rw [List.getElem?_append_right (by rw [List.length_take, linkF_len]; omega), List.length_take, linkF_len, Nat.min_eq_left (by omega), Nat.sub_self, List.getElem?_drop, Nat.add_zero, List.getElem?_eq_getElem h]
theorem mixL_succ (t : List Nat) (a b k : Nat) (h : k < t.length) : mixL t a b (k + 1) = (mixL t a b k).set k (if a.testBit k then t[k] ||| b else t[k]) := by
  apply List.ext_getElem?
  intro i
  rw [List.getElem?_set, mixL_len]
  unfold mixL
  rw [List.getElem?_append, List.getElem?_append, List.length_take, List.length_take, linkF_len, List.getElem?_take, List.getElem?_take, List.getElem?_drop, List.getElem?_drop]
  by_cases h1 : k = i
  · subst h1
    rw [if_pos (by omega), if_pos (by omega), if_pos rfl, if_pos h, linkF_at t a b k h]
  · rw [if_neg h1]
    by_cases h2 : i < k
    · rw [if_pos (by omega), if_pos (by omega), if_pos (by omega), if_pos h2]
    · rw [if_neg (by omega), if_neg (by omega)]
      congr 1; omega
theorem set_same {t : List Nat} {k : Nat} {x : Nat} (h : t[k]? = some x) : t.set k x = t := by
  apply List.ext_getElem?
  intro i
  rw [List.getElem?_set]
  by_cases h1 : k = i
  · subst h1
    have := (List.getElem?_eq_some_iff.1 h).1
    rw [if_pos rfl, if_pos this, h]
  · rw [if_neg h1]

theorem bit_at {A k : Nat} (hA : A < 2 ^ 64) : (bits .and .u64 ((A : Int) / 2 ^ k) 1 != 0) = A.testBit k := by
  have h64 : (2 : Nat) ^ 64 = 18446744073709551616 := by decide
  have h1 : ((A : Int) / 2 ^ k) = ((A / 2 ^ k : Nat) : Int) := by simp
  have h2 : A / 2 ^ k < 2 ^ 64 := Nat.lt_of_le_of_lt (Nat.div_le_self _ _) hA
  rw [h1, show (1 : Int) = ((1 : Nat) : Int) from rfl, u64_and_nat _ _ (by rw [← h64]; exact h2) (by omega), Nat.testBit_eq_decide_div_mod_eq, Nat.and_one_is_mod]
  have h3 : A / 2 ^ k % 2 < 2 := Nat.mod_lt _ (by omega)
  generalize A / 2 ^ k % 2 = m at h3
  rcases (show m = 0 ∨ m = 1 by omega) with rfl | rfl <;> rfl
theorem or_at {A B : Nat} (hA : A < 2 ^ 64) (hB : B < 2 ^ 64) : bits .or .u64 (A : Int) (B : Int) = ((A ||| B : Nat) : Int) := by
  have h64 : (2 : Nat) ^ 64 = 18446744073709551616 := by decide
  exact u64_or_nat _ _ (by rw [← h64]; exact hA) (by rw [← h64]; exact hB)
theorem own_some {w : World} {B e size n : Nat} {v : Value} {xs : List Value} (h : w.ownsRow B e size v n xs) (hn : 0 < n) : ∃ g cap, v = .slice (some ⟨g, 0, none⟩) n cap ∧ B ≤ g := by
  rcases h.2 with ⟨_, h0⟩ | ⟨g, cap, cur, rfl, hB, _⟩
  · omega
  · exact ⟨g, cap, rfl, hB⟩
theorem u64s_at {l : List Nat} {k x : Nat} (h : l[k]? = some x) : (u64s l)[k]? = some (.int .u64 (x : Int)) := by
  unfold u64s; rw [List.getElem?_map, h]; rfl
theorem u64s_set (l : List Nat) (k x : Nat) : u64s (l.set k x) = (u64s l).set k (.int .u64 (x : Int)) := by
  unfold u64s; rw [List.map_set]
structure LinkAt (w : World) (bp : Nat) (t a b c va vt : Value) (vs : List Value) (g : Gr) (A B k : Nat) (wr : World) : Prop where
  pat : Pat wr bp t va vt a b c
  row : GrRow wr bp va vt vs ⟨g.atoms, mixL g.thn A B k⟩
  below : Below bp w wr
  tys : Tys w wr
  le : k ≤ g.thn.length
theorem GrRow.links_set {w : World} {bp g1 n ct k O : Nat} {va vt : Value} {vs : List Value} {ats : List Pt} {l l2 : List Nat} (h : GrRow w bp va vt vs ⟨ats, l⟩) (hv : vt = .slice (some ⟨g1, 0, none⟩) n ct) (hn : l.length = n)
    (hl : l2 = l.set k O) : GrRow (w.setCell ⟨g1, k, none⟩ (.int .u64 (O : Int))) bp va vt vs ⟨ats, l2⟩ := by
  subst hv
  subst hl
  have hk := h.links
  dsimp only at hk
  rw [hn] at hk
  have hst := hk.stored k (.int .u64 (O : Int))
  have hB : bp + 1 ≤ g1 := (hk.lt g1 rfl).1
  refine ⟨?_, ?_, fun j u x hu hx => ?_⟩
  · exact h.atoms.kept hst.2 (own_far h.atoms hk (by decide))
  · have : (l.set k O).length = n := by rw [List.length_set]; exact hn
    dsimp only
    rw [this, u64s_set]
    exact hst.1
  · exact (h.kids j u x hu hx).keep fun b hb hl => ⟨hst.2.block b hl (by simp; omega), hb⟩
theorem link_next {w wr : World} {bp g1 n ct k O T A B : Nat} {t a b c va vt : Value} {vs : List Value} {g : Gr} (h : LinkAt w bp t a b c va vt vs g A B k wr) (hv : vt = .slice (some ⟨g1, 0, none⟩) n ct) (hn : g.thn.length = n) (hT : g.thn[k]? = some T) (hbit : A.testBit k = true) (hO : T ||| B = O) :
    LinkAt w bp t a b c va vt vs g A B (k + 1) (wr.setCell ⟨g1, k, none⟩ (.int .u64 (O : Int))) := by
  have hk : k < g.thn.length := (List.getElem?_eq_some_iff.1 hT).1
  have hT2 : g.thn[k] = T := (List.getElem?_eq_some_iff.1 hT).2
  have hg1 : bp + 1 ≤ g1 := (h.row.links.lt g1 (by rw [hv]; rfl)).1
  refine ⟨?_, ?_, h.below.setCell (by show bp ≤ g1; omega) _, h.tys.trans (Tys.of_grown h.row.links (by rw [hv]; exact grown_set wr g1 k _) (.inr rfl)), by omega⟩
  · have := h.pat
    unfold Pat at this ⊢
    rw [heap_setCell_other _ _ _ _ (by show bp ≠ g1; omega)]
    exact this
  · refine h.row.links_set hv (by rw [mixL_len]; exact hn) ?_
    rw [mixL_succ _ _ _ _ hk, hbit, hT2, if_pos rfl, hO]
theorem link_skip {w wr : World} {bp k T A B : Nat} {t a b c va vt : Value} {vs : List Value} {g : Gr} (h : LinkAt w bp t a b c va vt vs g A B k wr) (hT : g.thn[k]? = some T ∧ (mixL g.thn A B k)[k]? = some T) (hbit : A.testBit k = false) :
    LinkAt w bp t a b c va vt vs g A B (k + 1) wr := by
  have hk : k < g.thn.length := (List.getElem?_eq_some_iff.1 hT.1).1
  have hT2 : g.thn[k] = T := (List.getElem?_eq_some_iff.1 hT.1).2
  refine ⟨h.pat, ?_, h.below, h.tys, by omega⟩
  rw [mixL_succ _ _ _ _ hk, hbit, hT2]
  simp only [Bool.false_eq_true, if_false]
  rw [set_same hT.2]
  exact h.row
def LinkLoop (w : World) (bp : Nat) (t a b c va vt : Value) (vs : List Value) (g : Gr) (A B n : Nat) (k : Nat) (v : Value) (wr : World) : Prop := ∃ i, k + i = n ∧ v = .int .i64 i ∧ LinkAt w bp t a b c va vt vs g A B i wr

set_option maxHeartbeats 4000000 in
set_option maxRecDepth 100000 in
theorem link_any (bp : Nat) (t a b c : Value) (g : Gr) (A B : Nat) (w : World) (h : GrAt w bp t a b c g) (hn : g.thn.length ≤ 64) (hA : A < 2 ^ 64) (hB : B < 2 ^ 64) (hs : ∀ x ∈ g.thn, x < 2 ^ 64) :
    Calls Try.prog 77 #[.pointer (some ⟨bp, 1, none⟩), .int .u64 (A : Int), .int .u64 (B : Int)] w fun e w' => e = .returned (.tuple #[]) ∧ GrAt w' bp t a b c ⟨g.atoms, linkF g.thn A B⟩ ∧ Below bp w w' ∧ Tys w w' := by
  obtain ⟨va, vt, vs, hp, hr⟩ := h
  obtain ⟨ot, ct, hvt⟩ := own_shape hr.links
  obtain ⟨_, _, p2, _, _, _, _, f2, hlt⟩ := hp.reads
  obtain ⟨n, hn2⟩ : ∃ n, g.thn.length = n := ⟨_, rfl⟩
  have HST : LinkLoop w bp t a b c va vt vs g A B n n (.int .i64 (0 : Nat)) w := ⟨0, rfl, rfl, hp, by rw [mixL_zero]; exact hr, Below.refl _ _, Tys.refl _, Nat.zero_le _⟩
  have HN := Lib.hid hn2
  have HVT := Lib.hid (show vt = .slice ot n ct by rw [hvt, hn2])
  have HA := Lib.hid hA
  have HB := Lib.hid hB
  have HS := Lib.hid hs
  rw [hvt, hn2] at p2
  rw [hn2] at hn
  clear hp hr hvt hn2 hA hB hs
  go_enter Try.func77, Try.ntmps77
  go_wp2_with fail
  go_loopg [12] n (fun k v wr => LinkLoop w bp t a b c va vt vs g A B n k v wr)
  case atStart => exact HST
  case round =>
    clear HST p2 f2
    obtain ⟨k, hgk, rfl, H⟩ := hrel
    have HH := Lib.hid H
    obtain ⟨_, _, p2, _, _, _, _, f2, _⟩ := H.pat.reads
    rw [HVT.out] at p2
    clear H
    have HGK := Lib.hid hgk
    by_cases hkn : k < n
    · have i1 : (k : Int) < n := by omega
      obtain ⟨g1, c1, hv1, hg1⟩ := own_some HH.out.row.links (by show 0 < (mixL g.thn A B k).length; rw [mixL_len, HN.out]; omega)
      rw [HVT.out] at hv1
      injection hv1 with e1 e2 e3
      clear e2
      subst e1; subst e3
      obtain ⟨T, hT⟩ : ∃ T, g.thn[k]? = some T := ⟨_, List.getElem?_eq_getElem (by rw [HN.out]; exact hkn)⟩
      have hTm : (mixL g.thn A B k)[k]? = some T := by
        rw [mixL_at _ _ _ _ (by rw [HN.out]; exact hkn), ← hT, List.getElem?_eq_getElem (by rw [HN.out]; exact hkn)]
      have hT64 : T < 2 ^ 64 := HS.out T (List.mem_of_getElem? hT)
      have hrow := HH.out.row.links
      rw [HVT.out] at hrow
      have hln : (mixL g.thn A B k).length = n := by rw [mixL_len, HN.out]
      replace hrow : wr.ownsRow (bp + 1) 110 1 (.slice (some ⟨g1, 0, none⟩) n ct) n (u64s (mixL g.thn A B k)) := by
        have h2 := hrow
        dsimp only at h2
        rw [hln] at h2
        exact h2
      have c0 : wr.cell? ⟨g1, k, none⟩ = some (.int .u64 (T : Int)) := by rw [hrow.cellAt k (by omega)]; exact u64s_at hTm
      have c1 := hrow.frozenAt k
      have hbit := bit_at (A := A) (k := k) HA.out
      have hor := or_at hT64 HB.out
      have hst := hrow.stored k (.int .u64 ((T ||| B : Nat) : Int))
      have HST2 := Lib.hid hst
      have HTK := Lib.hid (And.intro hT hTm)
      obtain ⟨O, hO⟩ : ∃ O, T ||| B = O := ⟨_, rfl⟩
      rw [hO] at hor HST2
      have HO := Lib.hid hO
      clear hgk hrow hst hT hTm hT64 hln hO
      cases hb : A.testBit k with
      | true =>
        rw [hb] at hbit
        have HBT := Lib.hid hb
        clear hb
        go_wp2_with fail
        go_roundg (gk - 1)
        case measure => have := HGK.out; omega
        case rel => exact ⟨k + 1, by have := HGK.out; omega, by go_num, link_next HH.out HVT.out HN.out HTK.out.1 HBT.out HO.out⟩
      | false =>
        rw [hb] at hbit
        have HBT := Lib.hid hb
        clear hb
        go_wp2_with fail
        go_roundg (gk - 1)
        case measure => have := HGK.out; omega
        case rel => exact ⟨k + 1, by have := HGK.out; omega, by go_num, link_skip HH.out HTK.out HBT.out⟩
    · have i1 : (n : Int) ≤ k := by omega
      clear hgk
      go_wp2
      go_end0
      refine ⟨rfl, ⟨va, vt, vs, HH.out.pat, ?_⟩, HH.out.below, HH.out.tys⟩
      have := HH.out.row
      rwa [mixL_end _ _ _ _ (by rw [HN.out]; omega)] at this
end Go.Proofs.Ytmidpekkomhogaa.Pat
end

section
/- Patterns: a part that may come again is laid. -/

namespace Go.Proofs.Ytmidpekkomhogaa.Pat
open Go.RowKit

/-- What a call that lays leaves. -/
def LayRes (w : World) (bp : Nat) (t a b c : Value) (p : Eg × Gr) (e : Ending) (w' : World) : Prop :=
  e = .returned (.agg #[.bool p.1.none, .int .u64 (p.1.first : Int), .int .u64 (p.1.last : Int)]) ∧ GrAt w' bp t a b c p.2 ∧ Below bp w w' ∧ Tys w w'
def LayC (x : Pt) : Prop := ∀ (w : World) (bp : Nat) (t a b c v : Value) (g : Gr), GrAt w bp t a b c g → Tree w (fun k => k < bp) v x → g.atoms.length + x.size ≤ 64 → GrOk g → Calls Try.prog 58 #[.pointer (some ⟨bp, 1, none⟩), v] w (LayRes w bp t a b c (layF x g))
theorem GrAt.setBox {w : World} {bp k i : Nat} {t a b c u : Value} {g : Gr} {cs : Array Value} {ty : TypeId} {fr : Nat × Nat} (h : GrAt w bp t a b c g) (hk : w.heap[k]? = some (.cells cs ty fr)) (h1 : ty ≠ 102) (h2 : ty ≠ 110) (hb : bp < k) : GrAt (w.setCell ⟨k, i, none⟩ u) bp t a b c g := by
  obtain ⟨va, vt, vs, hp, hr⟩ := h
  refine ⟨va, vt, vs, ?_, ?_, ?_, fun j uu y hu hy => (hr.kids j uu y hu hy).keep fun b hb2 _ => ⟨heap_setCell_other _ _ _ _ (by show b ≠ k; omega), hb2⟩⟩
  · unfold Pat at hp ⊢
    rw [heap_setCell_other _ _ _ _ (by show bp ≠ k; omega)]
    exact hp
  · exact ownsRow_setCell_other hr.atoms (a := ⟨k, i, none⟩) (own_not hr.atoms hk h1) u
  · exact ownsRow_setCell_other hr.links (a := ⟨k, i, none⟩) (own_not hr.links hk h2) u
theorem Box3.tys {w w' : World} {k : Nat} {a b c : Value} {t : TypeId} (h : Box3 w k a b c t) (ht : Tys w w') (h1 : t ≠ 102) (h2 : t ≠ 110) (h3 : t ≠ 114) : Box3 w' k a b c t := ht k _ t _ h h1 h2 h3
theorem Box3.below {w w' : World} {k : Nat} {a b c : Value} {t : TypeId} (h : Box3 w k a b c t) (hb : Below w.heap.size w w') : Box3 w' k a b c t := (hb.block k (Array.getElem?_eq_some_iff.1 h).1).trans h
theorem Box3.set {w : World} {k i : Nat} {a b c u : Value} {t : TypeId} (h : Box3 w k a b c t) {j : Nat} (hj : j ≠ k) : Box3 (w.setCell ⟨j, i, none⟩ u) k a b c t := (heap_setCell_other _ _ _ _ (by show k ≠ j; omega)).trans h
/-- The three cells of a result are written. -/
theorem GrAt.put3 {w : World} {bp k : Nat} {t a b c x y z p q r : Value} {g : Gr} {ty : TypeId} (h : GrAt w bp t a b c g) (hk : Box3 w k x y z ty) (h1 : ty ≠ 102) (h2 : ty ≠ 110) (hb : bp < k) :
    GrAt (((w.setCell ⟨k, 0, none⟩ p).setCell ⟨k, 1, none⟩ q).setCell ⟨k, 2, none⟩ r) bp t a b c g := by
  have e1 : (w.setCell ⟨k, 0, none⟩ p).heap[k]? = some (.cells (#[x, y, z].setIfInBounds 0 p) ty (0, 0)) := heap_setCell_same w k 0 _ ty p hk
  have e2 := heap_setCell_same _ k 1 _ ty q e1
  exact ((h.setBox hk h1 h2 hb).setBox e1 h1 h2 hb).setBox e2 h1 h2 hb

theorem put_done {w w3 : World} {bp k : Nat} {t a b c x y z p q r : Value} {g : Gr} (h : GrAt w3 bp t a b c g) (hk : Box3 w3 k x y z 112) (hB : Below bp w w3) (hT : Tys w w3) (hw : w.heap.size ≤ k) (hb : bp < w.heap.size) :
    GrAt (((w3.setCell ⟨k, 0, none⟩ p).setCell ⟨k, 1, none⟩ q).setCell ⟨k, 2, none⟩ r) bp t a b c g ∧ Below bp w (((w3.setCell ⟨k, 0, none⟩ p).setCell ⟨k, 1, none⟩ q).setCell ⟨k, 2, none⟩ r) ∧ Tys w (((w3.setCell ⟨k, 0, none⟩ p).setCell ⟨k, 1, none⟩ q).setCell ⟨k, 2, none⟩ r) :=
  ⟨h.put3 hk (by decide) (by decide) (by omega), ((hB.setCell (by show bp ≤ k; omega) _).setCell (by show bp ≤ k; omega) _).setCell (by show bp ≤ k; omega) _, ((hT.setNew hw _ _).setNew hw _ _).setNew hw _ _⟩
theorem set_done {w w3 : World} {bp k i : Nat} {t a b c x y z p : Value} {g : Gr} (h : GrAt w3 bp t a b c g) (hk : Box3 w3 k x y z 112) (hB : Below bp w w3) (hT : Tys w w3) (hw : w.heap.size ≤ k) (hb : bp < w.heap.size) :
    GrAt (w3.setCell ⟨k, i, none⟩ p) bp t a b c g ∧ Below bp w (w3.setCell ⟨k, i, none⟩ p) ∧ Tys w (w3.setCell ⟨k, i, none⟩ p) :=
  ⟨h.setBox hk (by decide) (by decide) (by omega), hB.setCell (by show bp ≤ k; omega) _, hT.setNew hw _ _⟩
theorem put_alloc {w w3 : World} {bp k : Nat} {t a b c x y z p q r : Value} {g : Gr} (o : Obj) (h : GrAt w3 bp t a b c g) (hk : Box3 w3 k x y z 112) (hB : Below bp w w3) (hT : Tys w w3) (hw : w.heap.size ≤ k) (hb : bp < w.heap.size) :
    GrAt ((((w3.setCell ⟨k, 0, none⟩ p).setCell ⟨k, 1, none⟩ q).setCell ⟨k, 2, none⟩ r).alloc o) bp t a b c g ∧ Below bp w ((((w3.setCell ⟨k, 0, none⟩ p).setCell ⟨k, 1, none⟩ q).setCell ⟨k, 2, none⟩ r).alloc o) ∧ Tys w ((((w3.setCell ⟨k, 0, none⟩ p).setCell ⟨k, 1, none⟩ q).setCell ⟨k, 2, none⟩ r).alloc o) := by
  obtain ⟨h1, h2, h3⟩ := put_done (p := p) (q := q) (r := r) h hk hB hT hw hb
  have ha : ∀ W : World, Below W.heap.size W (W.alloc o) := fun W => (Below.refl _ _).alloc (Nat.le_refl _) _
  exact ⟨h1.below (ha _), h2.trans ((ha _).mono (by have := h2.size; omega)), h3.trans (Tys.of_below (ha _))⟩
/-- The walk's three boxes. -/
structure Three (w : World) (k0 k1 k2 : Nat) (a0 b0 c0 a2 b2 c2 : Value) : Prop where
  b0 : Box3 w k0 a0 b0 c0 135
  b1 : Box3 w k1 (.bool false) (.int .u64 0) (.int .u64 0) 112
  b2 : Box3 w k2 a2 b2 c2 112
theorem Three.tys {w w' : World} {k0 k1 k2 : Nat} {a0 b0 c0 a2 b2 c2 : Value} (h : Three w k0 k1 k2 a0 b0 c0 a2 b2 c2) (ht : Tys w w') : Three w' k0 k1 k2 a0 b0 c0 a2 b2 c2 :=
  ⟨h.b0.tys ht (by decide) (by decide) (by decide), h.b1.tys ht (by decide) (by decide) (by decide), h.b2.tys ht (by decide) (by decide) (by decide)⟩

set_option maxHeartbeats 4000000 in
set_option maxRecDepth 100000 in
theorem layTimes_of (x : Pt) (hx : LayC x) (a1 b1 : Bool) (w : World) (bp : Nat) (t a b c v : Value) (g : Gr) (h : GrAt w bp t a b c g) (ht : Tree w (fun k => k < bp) v x) (hs : g.atoms.length + x.size ≤ 64) (hok : GrOk g) :
    Calls Try.prog 69 #[.pointer (some ⟨bp, 1, none⟩), .agg #[v, .bool a1, .bool b1]] w (LayRes w bp t a b c (timesG a1 b1 (layF x g))) := by
  obtain ⟨tv, uv, rfl⟩ := ht.iface
  have hlt := h.lt
  obtain ⟨W, hW⟩ : ∃ W, (w.alloc (Obj.cells #[.iface tv uv, .bool a1, .bool b1] 135)).alloc (Obj.cells #[.bool false, .int .u64 0, .int .u64 0] 112) = W := ⟨_, rfl⟩
  have hb0 : Below w.heap.size w W := by rw [← hW]; exact ((Below.refl _ _).alloc (Nat.le_refl _) _).alloc (by simp) _
  have hk0 : Box3 W w.heap.size (.iface tv uv) (.bool a1) (.bool b1) 135 := by
    unfold Box3
    rw [← hW, Below.heap_alloc _ _ _ (by simp)]
    exact Array.getElem?_push_size
  have hk1 : Box3 W (w.heap.size + 1) (.bool false) (.int .u64 0) (.int .u64 0) 112 := by
    unfold Box3
    rw [← hW]
    have := Array.getElem?_push_size (xs := (w.alloc (Obj.cells #[.iface tv uv, .bool a1, .bool b1] 135)).heap) (x := Obj.cells #[.bool false, .int .u64 0, .int .u64 0] 112)
    rw [World.size_alloc] at this
    exact this
  have HL := Lib.hid (hx W bp t a b c (.iface tv uv) g (h.below hb0) (ht.stays hb0) hs hok)
  have hfok := layF_ok x g hok
  obtain ⟨E, G, hp⟩ : ∃ E G, layF x g = (E, G) := ⟨_, _, rfl⟩
  rw [hp] at HL hfok ⊢
  obtain ⟨en, ef, el⟩ := E
  obtain ⟨o1, o2, o3, o4⟩ := hfok
  dsimp only at o1 o2 o3 o4
  have H64 := Lib.hid (show ef < 2 ^ 64 ∧ el < 2 ^ 64 ∧ (∀ m ∈ G.thn, m < 2 ^ 64) ∧ G.thn.length ≤ 64 from ⟨pow_mono o3 hs, pow_mono o4 hs, fun m hm => pow_mono (o1.small m hm) (by omega), by rw [o1.len]; omega⟩)
  have HB0 := Lib.hid hb0
  have HK := Lib.hid (And.intro hk0 hk1)
  have HW := Lib.hid hW
  obtain ⟨r0, r1, r2, _, _, _⟩ := hk0.reads
  clear h ht hW hb0 hk0 hk1 hx hp o1 o2 o3 o4 hok hs
  go_enter Try.func69, Try.ntmps69
  go_wp2_with fail
  rw [HW.out]
  refine HL.out.mono ?_
  rintro e w1 ⟨rfl, hg1, hb1, ht1⟩
  clear r0 r1 r2
  have hK0 := HK.out.1.tys ht1 (by decide) (by decide) (by decide)
  have hK1 := HK.out.2.tys ht1 (by decide) (by decide) (by decide)
  obtain ⟨W2, hW2⟩ : ∃ W2, w1.alloc (Obj.cells #[.bool en, .int .u64 (ef : Int), .int .u64 (el : Int)] 112) = W2 := ⟨_, rfl⟩
  have hb2 : Below w1.heap.size w1 W2 := by rw [← hW2]; exact (Below.refl _ _).alloc (Nat.le_refl _) _
  have h3 : Three W2 w.heap.size (w.heap.size + 1) w1.heap.size (.iface tv uv) (.bool a1) (.bool b1) (.bool en) (.int .u64 (ef : Int)) (.int .u64 (el : Int)) :=
    ⟨hK0.below hb2, hK1.below hb2, by unfold Box3; rw [← hW2]; exact Array.getElem?_push_size⟩
  have hsz : w.heap.size + 1 < w1.heap.size := (Array.getElem?_eq_some_iff.1 hK1).1
  have HG2 := Lib.hid (show GrAt W2 bp t a b c G ∧ Below bp w W2 ∧ Tys w W2 from ⟨hg1.below hb2, ((HB0.out.mono (Nat.le_of_lt hlt)).trans hb1).trans (hb2.mono (by omega)), ((Tys.of_below HB0.out).trans ht1).trans (Tys.of_below hb2)⟩)
  have H3 := Lib.hid h3
  have HW2 := Lib.hid hW2
  have HG1 := Lib.hid (show GrAt w1 bp t a b c G ∧ Box3 w1 (w.heap.size + 1) (.bool false) (.int .u64 0) (.int .u64 0) 112 ∧ Below bp w w1 ∧ Tys w w1 from ⟨hg1, hK1, (HB0.out.mono (Nat.le_of_lt hlt)).trans hb1, (Tys.of_below HB0.out).trans ht1⟩)
  obtain ⟨r0, r1, r2, _, _, _⟩ := hK0.reads
  obtain ⟨q0, q1, q2, g0, g1, g2⟩ := hK1.reads
  have hsz0 : w.heap.size < w1.heap.size := by omega
  clear hg1 hb1 ht1 hK0 hK1 hW2 hb2 h3
  cases b1 with
  | false =>
    cases en with
    | true =>
      go_wp2_with fail
      obtain ⟨k1, k2, k3⟩ := put_alloc (p := .bool true) (q := .int .u64 ef) (r := .int .u64 el) (Obj.cells #[.bool true, .int .u64 (ef : Int), .int .u64 (el : Int)] 112) HG1.out.1 HG1.out.2.1 HG1.out.2.2.1 HG1.out.2.2.2 (Nat.le_succ _) hlt
      refine bodyPost_ret (v := .agg #[.bool true, .int .u64 ef, .int .u64 el]) (by simp [results, Try.results69, go_sem, q0, q1, q2, hsz]) rfl ⟨by simp [timesG], by simpa [timesG] using k1, k2, k3⟩
    | false =>
      go_wp2_with fail
      obtain ⟨k1, k2, k3⟩ := put_alloc (p := .bool a1) (q := .int .u64 ef) (r := .int .u64 el) (Obj.cells #[.bool a1, .int .u64 (ef : Int), .int .u64 (el : Int)] 112) HG1.out.1 HG1.out.2.1 HG1.out.2.2.1 HG1.out.2.2.2 (Nat.le_succ _) hlt
      refine bodyPost_ret (v := .agg #[.bool a1, .int .u64 ef, .int .u64 el]) (by simp [results, Try.results69, go_sem, q0, q1, q2, hsz]) rfl ⟨by simp [timesG], by simpa [timesG] using k1, k2, k3⟩
  | true =>
    go_wp2_with fail
    rw [HW2.out]
    clear r0 r1 r2 q0 q1 q2 g0 g1 g2
    refine (link_any bp t a b c G el ef W2 HG2.out.1 H64.out.2.2.2 H64.out.2.1 H64.out.1 H64.out.2.2.1).mono ?_
    rintro e w3 ⟨rfl, hg3, hb3, ht3⟩
    have h3 := H3.out.tys ht3
    have HG3 := Lib.hid (show GrAt w3 bp t a b c ⟨G.atoms, linkF G.thn el ef⟩ ∧ Below bp w w3 ∧ Tys w w3 from ⟨hg3, HG2.out.2.1.trans hb3, HG2.out.2.2.trans ht3⟩)
    have HT3 := Lib.hid h3
    obtain ⟨r0, r1, r2, _, _, _⟩ := h3.b0.reads
    obtain ⟨q0, q1, q2, g0, g1, g2⟩ := h3.b1.reads
    obtain ⟨p0, p1, p2, f0, f1, f2⟩ := h3.b2.reads
    have hsz3 : w1.heap.size < w3.heap.size := (Array.getElem?_eq_some_iff.1 h3.b2).1
    clear hg3 hb3 ht3 h3
    cases en with
    | true =>
      go_wp2_with fail
      obtain ⟨k1, k2, k3⟩ := set_done (i := 0) (p := .bool true) HG3.out.1 HT3.out.b2 HG3.out.2.1 HG3.out.2.2 (by omega) hlt
      obtain ⟨j1, j2, j3⟩ := put_done (p := .bool true) (q := .int .u64 ef) (r := .int .u64 el) k1 (HT3.out.b1.set (by omega)) k2 k3 (Nat.le_succ _) hlt
      have hne : w.heap.size + 1 ≠ w1.heap.size := by omega
      refine bodyPost_ret (v := .agg #[.bool true, .int .u64 ef, .int .u64 el]) (by simp [results, Try.results69, go_sem, q0, q1, q2]) rfl ⟨by simp [timesG], by simpa [timesG] using j1, j2, j3⟩
    | false =>
      go_wp2_with fail
      obtain ⟨k1, k2, k3⟩ := set_done (i := 0) (p := .bool a1) HG3.out.1 HT3.out.b2 HG3.out.2.1 HG3.out.2.2 (by omega) hlt
      obtain ⟨j1, j2, j3⟩ := put_done (p := .bool a1) (q := .int .u64 ef) (r := .int .u64 el) k1 (HT3.out.b1.set (by omega)) k2 k3 (Nat.le_succ _) hlt
      have hne : w.heap.size + 1 ≠ w1.heap.size := by omega
      refine bodyPost_ret (v := .agg #[.bool a1, .int .u64 ef, .int .u64 el]) (by simp [results, Try.results69, go_sem, q0, q1, q2]) rfl ⟨by simp [timesG], by simpa [timesG] using j1, j2, j3⟩
end Go.Proofs.Ytmidpekkomhogaa.Pat
end

section
/- Patterns: alternatives are laid. -/

namespace Go.Proofs.Ytmidpekkomhogaa.Pat
open Go.RowKit

/-- The walk's state over a list of parts: the rest comes to T. -/
structure LaysAt (w : World) (bp k0 : Nat) (t a b c : Value) (wr : World) (e : Eg) (g : Gr) : Prop where
  gr : GrAt wr bp t a b c g
  res : Box3 wr k0 (.bool false) (.int .u64 0) (.int .u64 0) 112
  all : Box3 wr (k0 + 1) (.bool e.none) (.int .u64 (e.first : Int)) (.int .u64 (e.last : Int)) 112
  below : Below bp w wr
  tys : Tys w wr
  ok : GrOk g
  small : e.first < 2 ^ g.atoms.length ∧ e.last < 2 ^ g.atoms.length
  base : w.heap.size ≤ k0
  far : bp < w.heap.size
def AltLoop (w : World) (bp k0 : Nat) (t a b c : Value) (l : List Pt) (T : Eg × Gr) (n : Nat) (k : Nat) (v : Value) (wr : World) : Prop := ∃ i e g, k + i = n ∧ v = .int .i64 (i : Nat) ∧ LaysAt w bp k0 t a b c wr e g ∧ layAlts (l.drop i) e g = T ∧ g.atoms.length + sizes (l.drop i) ≤ 64
theorem drop_at {l : List Pt} {i : Nat} {x : Pt} (h : l[i]? = some x) : l.drop i = x :: l.drop (i + 1) := by
  obtain ⟨h1, h2⟩ := List.getElem?_eq_some_iff.1 h
  rw [List.drop_eq_getElem_cons h1, h2]
/-- The list's own cells, under the pattern's block. -/
structure ListAt (w : World) (bp : Nat) (o : Option Addr) (vs : List Value) (l : List Pt) : Prop where
  sees : SeesV w (fun k => k < bp) o vs
  len : vs.length = l.length
  kids : ∀ (j : Nat) v x, vs[j]? = some v → l[j]? = some x → Tree w (fun k => k < bp) v x
theorem ListAt.at {w wr : World} {bp : Nat} {o : Option Addr} {vs : List Value} {l : List Pt} (h : ListAt w bp o vs l) (hb : Below bp w wr) {i : Nat} {x : Pt} (hx : l[i]? = some x) : ∃ b off v, o = some ⟨b, off, none⟩ ∧ wr.cell? ⟨b, off + i, none⟩ = some v ∧ Tree wr (fun k => k < bp) v x := by
  have hi := (List.getElem?_eq_some_iff.1 hx).1
  obtain ⟨v, hv⟩ : ∃ v, vs[i]? = some v := ⟨_, List.getElem?_eq_getElem (by rw [h.len]; exact hi)⟩
  rcases h.sees with h0 | ⟨b, off, e, hp, hl, hs⟩
  · rw [h0] at hv; simp at hv
  · exact ⟨b, off, v, e, (hb.cell (p := ⟨b, off + i, none⟩) hp).trans (hs i v hv), (h.kids i v x hv hx).under hb⟩

theorem Box3.put {w : World} {k : Nat} {a b c p q r : Value} {t : TypeId} (h : Box3 w k a b c t) : Box3 (((w.setCell ⟨k, 0, none⟩ p).setCell ⟨k, 1, none⟩ q).setCell ⟨k, 2, none⟩ r) k p q r t := by
  have e1 : (w.setCell ⟨k, 0, none⟩ p).heap[k]? = some (.cells (#[a, b, c].setIfInBounds 0 p) t (0, 0)) := heap_setCell_same w k 0 _ t p h
  have e2 := heap_setCell_same _ k 1 _ t q e1
  exact heap_setCell_same _ k 2 _ t r e2
theorem lays_put {w w1 : World} {bp k0 F1 F2 : Nat} {t a b c x y z : Value} {an : Bool} {G : Gr} (o : Obj) (h : GrAt w1 bp t a b c G ∧ Box3 w1 k0 (.bool false) (.int .u64 0) (.int .u64 0) 112 ∧ Box3 w1 (k0 + 1) x y z 112 ∧ Below bp w w1 ∧ Tys w w1) (hok : GrOk G) (hs : F1 < 2 ^ G.atoms.length ∧ F2 < 2 ^ G.atoms.length) (hb : w.heap.size ≤ k0) (hf : bp < w.heap.size) :
    LaysAt w bp k0 t a b c ((((w1.setCell ⟨k0 + 1, 0, none⟩ (.bool an)).setCell ⟨k0 + 1, 1, none⟩ (.int .u64 (F1 : Int))).setCell ⟨k0 + 1, 2, none⟩ (.int .u64 (F2 : Int))).alloc o) ⟨an, F1, F2⟩ G := by
  obtain ⟨h1, h2, h3, h4, h5⟩ := h
  obtain ⟨k1, k2, k3⟩ := put_alloc (p := .bool an) (q := .int .u64 (F1 : Int)) (r := .int .u64 (F2 : Int)) o h1 h3 h4 h5 (by omega) hf
  have ha : ∀ W : World, Below W.heap.size W (W.alloc o) := fun W => (Below.refl _ _).alloc (Nat.le_refl _) _
  exact ⟨k1, (((h2.set (by omega)).set (by omega)).set (by omega)).below (ha _), h3.put.below (ha _), k2, k3, hok, hs, hb, hf⟩

set_option maxHeartbeats 4000000 in
set_option maxRecDepth 100000 in
theorem layChoice_of (l : List Pt) (hx : ∀ x ∈ l, LayC x) (w : World) (bp : Nat) (t a b c : Value) (g : Gr) (o : Option Addr) (n cap : Nat) (vs : List Value) (h : GrAt w bp t a b c g) (hL : ListAt w bp o vs l) (hn : l.length = n) (hm : n ≤ 2000000) (hs : g.atoms.length + sizes l ≤ 64) (hok : GrOk g) :
    Calls Try.prog 67 #[.pointer (some ⟨bp, 1, none⟩), .slice o n cap] w (LayRes w bp t a b c (layAlts l ⟨false, 0, 0⟩ g)) := by
  have hlt := h.lt
  obtain ⟨W, hW⟩ : ∃ W, (w.alloc (Obj.cells #[.bool false, .int .u64 0, .int .u64 0] 112)).alloc (Obj.cells #[.bool false, .int .u64 0, .int .u64 0] 112) = W := ⟨_, rfl⟩
  have hb0 : Below w.heap.size w W := by rw [← hW]; exact ((Below.refl _ _).alloc (Nat.le_refl _) _).alloc (by simp) _
  have hk0 : Box3 W w.heap.size (.bool false) (.int .u64 0) (.int .u64 0) 112 := by
    unfold Box3
    rw [← hW, Below.heap_alloc _ _ _ (by simp)]
    exact Array.getElem?_push_size
  have hk1 : Box3 W (w.heap.size + 1) (.bool false) (.int .u64 0) (.int .u64 0) 112 := by
    unfold Box3
    rw [← hW]
    have := Array.getElem?_push_size (xs := (w.alloc (Obj.cells #[.bool false, .int .u64 0, .int .u64 0] 112)).heap) (x := Obj.cells #[.bool false, .int .u64 0, .int .u64 0] 112)
    rw [World.size_alloc] at this
    exact this
  obtain ⟨T, hT⟩ : ∃ T, layAlts l ⟨false, 0, 0⟩ g = T := ⟨_, rfl⟩
  have HST : AltLoop w bp w.heap.size t a b c l T n n (.int .i64 (0 : Nat)) W :=
    ⟨0, ⟨false, 0, 0⟩, g, rfl, rfl, ⟨h.below hb0, hk0, hk1, hb0.mono (Nat.le_of_lt hlt), Tys.of_below hb0, hok, ⟨Nat.two_pow_pos _, Nat.two_pow_pos _⟩, Nat.le_refl _, hlt⟩, hT, by simpa using hs⟩
  rw [hT]
  have HX := Lib.hid hx
  have HLI := Lib.hid hL
  have HN := Lib.hid hn
  have HW := Lib.hid hW
  clear h hL hn hW hb0 hk0 hk1 hT hs hok hx
  go_enter Try.func67, Try.ntmps67
  go_wp2_with fail
  rw [HW.out]
  go_loopg [11] n (fun k v wr => AltLoop w bp w.heap.size t a b c l T n k v wr)
  case atStart => exact HST
  case round =>
    clear HST
    obtain ⟨i, e, g2, hgk, rfl, H, hT, hs⟩ := hrel
    have HH := Lib.hid H
    have HGK := Lib.hid hgk
    obtain ⟨q0, q1, q2, g0, g1, gq2⟩ := H.all.reads
    by_cases hin : i < n
    · have i1 : (i : Int) < n := by omega
      obtain ⟨x, hxi⟩ : ∃ x, l[i]? = some x := ⟨_, List.getElem?_eq_getElem (by rw [HN.out]; exact hin)⟩
      obtain ⟨b2, off, v2, rfl, hc, htr⟩ := HLI.out.at H.below hxi
      have hd := drop_at hxi
      rw [hd] at hT hs
      rw [layAlts] at hT
      simp only [sizes] at hs
      have hfok := layF_ok x g2 H.ok
      have HL := Lib.hid (HX.out x (List.mem_of_getElem? hxi) wr bp t a b c v2 g2 H.gr htr (by omega) H.ok)
      obtain ⟨E, G, hp⟩ : ∃ E G, layF x g2 = (E, G) := ⟨_, _, rfl⟩
      rw [hp] at HL hfok hT
      obtain ⟨en, ef, el⟩ := E
      obtain ⟨o1, o2, o3, o4⟩ := hfok
      dsimp only at o1 o2 o3 o4 hT
      obtain ⟨an, af, al⟩ := e
      have hsm := H.small
      dsimp only at hsm q0 q1 q2
      have h64 : ∀ m : Nat, m < 2 ^ G.atoms.length → m < 2 ^ 64 := fun m hm => pow_mono hm (by omega)
      rw [← o2] at o3 o4
      have ha1 : af < 2 ^ G.atoms.length := pow_mono hsm.1 (by omega)
      have ha2 : al < 2 ^ G.atoms.length := pow_mono hsm.2 (by omega)
      have hor1 := or_at (h64 _ ha1) (h64 _ o3)
      have hor2 := or_at (h64 _ ha2) (h64 _ o4)
      have HS := Lib.hid (show af ||| ef < 2 ^ G.atoms.length ∧ al ||| el < 2 ^ G.atoms.length from ⟨pow_or ha1 o3, pow_or ha2 o4⟩)
      obtain ⟨F1, hF1⟩ : ∃ F, af ||| ef = F := ⟨_, rfl⟩
      obtain ⟨F2, hF2⟩ : ∃ F, al ||| el = F := ⟨_, rfl⟩
      rw [hF1] at hor1 HS
      rw [hF2] at hor2 HS
      have HT := Lib.hid (show layAlts (l.drop (i + 1)) ⟨an || en, F1, F2⟩ G = T by rw [← hF1, ← hF2]; exact hT)
      have HSZ := Lib.hid (show G.atoms.length + sizes (l.drop (i + 1)) ≤ 64 by omega)
      have HOK := Lib.hid o1
      obtain ⟨tv, uv, rfl⟩ := htr.iface
      clear hgk H hT hs hd hxi htr hp o1 o2 o3 o4 hsm h64 ha1 ha2 hF1 hF2
      go_wp2_with fail
      refine HL.out.mono ?_
      rintro e w1 ⟨rfl, hg1, hb1, ht1⟩
      clear q0 q1 q2 g0 g1 gq2 hc
      have hK0 := HH.out.res.tys ht1 (by decide) (by decide) (by decide)
      have hK1 := HH.out.all.tys ht1 (by decide) (by decide) (by decide)
      have HG1 := Lib.hid (show GrAt w1 bp t a b c G ∧ Box3 w1 w.heap.size (.bool false) (.int .u64 0) (.int .u64 0) 112 ∧ Box3 w1 (w.heap.size + 1) (.bool an) (.int .u64 (af : Int)) (.int .u64 (al : Int)) 112 ∧ Below bp w w1 ∧ Tys w w1 from ⟨hg1, hK0, hK1, HH.out.below.trans hb1, HH.out.tys.trans ht1⟩)
      obtain ⟨q0, q1, q2, g0, g1, gq2⟩ := hK1.reads
      have hsz : w.heap.size + 1 < w1.heap.size := (Array.getElem?_eq_some_iff.1 hK1).1
      clear hg1 hb1 ht1 hK0 hK1
      cases an with
      | true =>
        have HT2 := Lib.hid (show layAlts (l.drop (i + 1)) ⟨true, F1, F2⟩ G = T from HT.out)
        go_wp2_with fail
        go_roundg (gk - 1)
        case measure => have := HGK.out; omega
        case rel => exact ⟨i + 1, ⟨true, F1, F2⟩, G, by have := HGK.out; omega, by go_num, lays_put _ HG1.out HOK.out HS.out (Nat.le_refl _) hlt, HT2.out, HSZ.out⟩
      | false =>
        have HT2 := Lib.hid (show layAlts (l.drop (i + 1)) ⟨en, F1, F2⟩ G = T from HT.out)
        go_wp2_with fail
        go_roundg (gk - 1)
        case measure => have := HGK.out; omega
        case rel => exact ⟨i + 1, ⟨en, F1, F2⟩, G, by have := HGK.out; omega, by go_num, lays_put _ HG1.out HOK.out HS.out (Nat.le_refl _) hlt, HT2.out, HSZ.out⟩
    · have i1 : (n : Int) ≤ i := by omega
      have hdn : l.drop i = [] := List.drop_eq_nil_of_le (by rw [HN.out]; omega)
      have HT2 := Lib.hid (show T = (e, g2) by rw [← hT, hdn]; rfl)
      obtain ⟨an, af, al⟩ := e
      dsimp only at q0 q1 q2
      obtain ⟨x0, x1, x2, y0, y1, y2⟩ := H.res.reads
      obtain ⟨k1, k2, k3⟩ := put_done (p := .bool an) (q := .int .u64 (af : Int)) (r := .int .u64 (al : Int)) H.gr H.res H.below H.tys H.base hlt
      have HK := Lib.hid (And.intro k1 (And.intro k2 k3))
      clear hgk H hT hs hdn k1 k2 k3
      go_wp2_with fail
      refine bodyPost_ret (v := .agg #[.bool an, .int .u64 af, .int .u64 al]) (by simp [results, Try.results67, go_sem, x0, x1, x2]) rfl ?_
      rw [HT2.out]
      exact ⟨rfl, HK.out.1, HK.out.2.1, HK.out.2.2⟩
end Go.Proofs.Ytmidpekkomhogaa.Pat
end

section
/- Patterns: parts that stand one behind the other are laid. -/

namespace Go.Proofs.Ytmidpekkomhogaa.Pat
open Go.RowKit

/-- The walk's state between two stores. -/
structure LaysW (w : World) (bp k0 : Nat) (t a b c : Value) (wr : World) (x y z : Value) (g : Gr) : Prop where
  gr : GrAt wr bp t a b c g
  res : Box3 wr k0 (.bool false) (.int .u64 0) (.int .u64 0) 112
  all : Box3 wr (k0 + 1) x y z 112
  below : Below bp w wr
  tys : Tys w wr
  base : w.heap.size ≤ k0
  far : bp < w.heap.size
theorem LaysW.step {w wr : World} {bp k0 : Nat} {t a b c x y z x' y' z' u : Value} {g : Gr} (i : Nat) (h : LaysW w bp k0 t a b c wr x y z g) (he : #[x, y, z].setIfInBounds i u = #[x', y', z']) : LaysW w bp k0 t a b c (wr.setCell ⟨k0 + 1, i, none⟩ u) x' y' z' g := by
  have hb := h.base
  have hf := h.far
  refine ⟨h.gr.setBox h.all (by decide) (by decide) (by omega), h.res.set (by omega), ?_, h.below.setCell (by show bp ≤ k0 + 1; omega) _, h.tys.setNew (by omega) _ _, hb, hf⟩
  have := heap_setCell_same wr (k0 + 1) i _ 112 u h.all
  rw [he] at this
  exact this
theorem LaysW.done {w wr : World} {bp k0 : Nat} {t a b c : Value} {e : Eg} {g : Gr} (h : LaysW w bp k0 t a b c wr (.bool e.none) (.int .u64 (e.first : Int)) (.int .u64 (e.last : Int)) g) (hok : GrOk g) (hs : e.first < 2 ^ g.atoms.length ∧ e.last < 2 ^ g.atoms.length) : LaysAt w bp k0 t a b c wr e g :=
  ⟨h.gr, h.res, h.all, h.below, h.tys, hok, hs, h.base, h.far⟩
def SeqLoop (w : World) (bp k0 : Nat) (t a b c : Value) (l : List Pt) (T : Eg × Gr) (n : Nat) (k : Nat) (v : Value) (wr : World) : Prop := ∃ i e g, k + i = n ∧ v = .int .i64 (i : Nat) ∧ LaysAt w bp k0 t a b c wr e g ∧ laySeq (l.drop i) e g = T ∧ g.atoms.length + sizes (l.drop i) ≤ 64

set_option maxHeartbeats 4000000 in
set_option maxRecDepth 100000 in
theorem layChain_of (l : List Pt) (hx : ∀ x ∈ l, LayC x) (w : World) (bp : Nat) (t a b c : Value) (g : Gr) (o : Option Addr) (n cap : Nat) (vs : List Value) (h : GrAt w bp t a b c g) (hL : ListAt w bp o vs l) (hn : l.length = n) (hm : n ≤ 2000000) (hs : g.atoms.length + sizes l ≤ 64) (hok : GrOk g) :
    Calls Try.prog 68 #[.pointer (some ⟨bp, 1, none⟩), .slice o n cap] w (LayRes w bp t a b c (laySeq l ⟨true, 0, 0⟩ g)) := by
  have hlt := h.lt
  obtain ⟨W, hW⟩ : ∃ W, (w.alloc (Obj.cells #[.bool false, .int .u64 0, .int .u64 0] 112)).alloc (Obj.cells #[.bool true, .int .u64 0, .int .u64 0] 112) = W := ⟨_, rfl⟩
  have hb0 : Below w.heap.size w W := by rw [← hW]; exact ((Below.refl _ _).alloc (Nat.le_refl _) _).alloc (by simp) _
  have hk0 : Box3 W w.heap.size (.bool false) (.int .u64 0) (.int .u64 0) 112 := by
    unfold Box3
    rw [← hW, Below.heap_alloc _ _ _ (by simp)]
    exact Array.getElem?_push_size
  have hk1 : Box3 W (w.heap.size + 1) (.bool true) (.int .u64 0) (.int .u64 0) 112 := by
    unfold Box3
    rw [← hW]
    have := Array.getElem?_push_size (xs := (w.alloc (Obj.cells #[.bool false, .int .u64 0, .int .u64 0] 112)).heap) (x := Obj.cells #[.bool true, .int .u64 0, .int .u64 0] 112)
    rw [World.size_alloc] at this
    exact this
  obtain ⟨T, hT⟩ : ∃ T, laySeq l ⟨true, 0, 0⟩ g = T := ⟨_, rfl⟩
  have HST : SeqLoop w bp w.heap.size t a b c l T n n (.int .i64 (0 : Nat)) W :=
    ⟨0, ⟨true, 0, 0⟩, g, rfl, rfl, ⟨h.below hb0, hk0, hk1, hb0.mono (Nat.le_of_lt hlt), Tys.of_below hb0, hok, ⟨Nat.two_pow_pos _, Nat.two_pow_pos _⟩, Nat.le_refl _, hlt⟩, hT, by simpa using hs⟩
  rw [hT]
  have HX := Lib.hid hx
  have HLI := Lib.hid hL
  have HN := Lib.hid hn
  have HW := Lib.hid hW
  clear h hL hn hW hb0 hk0 hk1 hT hs hok hx
  go_enter Try.func68, Try.ntmps68
  go_wp2_with fail
  rw [HW.out]
  go_loopg [12] n (fun k v wr => SeqLoop w bp w.heap.size t a b c l T n k v wr)
  case atStart => exact HST
  case round =>
    clear HST
    obtain ⟨i, e, g2, hgk, rfl, H, hT, hs⟩ := hrel
    have HH := Lib.hid H
    have HGK := Lib.hid hgk
    obtain ⟨q0, q1, q2, g0, g1, gq2⟩ := H.all.reads
    by_cases hin : i < n
    · have i1 : (i : Int) < n := by omega
      obtain ⟨x, hxi⟩ : ∃ x, l[i]? = some x := ⟨_, List.getElem?_eq_getElem (by rw [HN.out]; exact hin)⟩
      obtain ⟨b2, off, v2, rfl, hc, htr⟩ := HLI.out.at H.below hxi
      have hd := drop_at hxi
      rw [hd] at hT hs
      rw [laySeq] at hT
      simp only [sizes] at hs
      have hfok := layF_ok x g2 H.ok
      have HL := Lib.hid (HX.out x (List.mem_of_getElem? hxi) wr bp t a b c v2 g2 H.gr htr (by omega) H.ok)
      obtain ⟨E, G, hp⟩ : ∃ E G, layF x g2 = (E, G) := ⟨_, _, rfl⟩
      rw [hp] at HL hfok hT
      obtain ⟨en, ef, el⟩ := E
      obtain ⟨o1, o2, o3, o4⟩ := hfok
      dsimp only at o1 o2 o3 o4 hT
      obtain ⟨an, af, al⟩ := e
      have hsm := H.small
      dsimp only at hsm q0 q1 q2 hT
      have h64 : ∀ m : Nat, m < 2 ^ G.atoms.length → m < 2 ^ 64 := fun m hm => pow_mono hm (by omega)
      rw [← o2] at o3 o4
      have ha1 : af < 2 ^ G.atoms.length := pow_mono hsm.1 (by omega)
      have ha2 : al < 2 ^ G.atoms.length := pow_mono hsm.2 (by omega)
      have hor1 := or_at (h64 _ ha1) (h64 _ o3)
      have hor2 := or_at (h64 _ ha2) (h64 _ o4)
      have HLK := Lib.hid (fun (W2 : World) (h2 : GrAt W2 bp t a b c G) => link_any bp t a b c G al ef W2 h2 (by rw [o1.len]; omega) (h64 _ ha2) (h64 _ o3) (fun m hm => h64 _ (o1.small m hm)))
      have HG3 := Lib.hid (show GrOk ⟨G.atoms, linkF G.thn al ef⟩ from ⟨by rw [linkF_len]; exact o1.len, linkF_small o1.small o3⟩)
      have HS := Lib.hid (show (af ||| ef < 2 ^ G.atoms.length ∧ al ||| el < 2 ^ G.atoms.length) ∧ af < 2 ^ G.atoms.length ∧ el < 2 ^ G.atoms.length from ⟨⟨pow_or ha1 o3, pow_or ha2 o4⟩, ha1, o4⟩)
      obtain ⟨F1, hF1⟩ : ∃ F, af ||| ef = F := ⟨_, rfl⟩
      obtain ⟨F2, hF2⟩ : ∃ F, al ||| el = F := ⟨_, rfl⟩
      rw [hF1] at hor1 HS
      rw [hF2] at hor2 HS
      have HT := Lib.hid (show laySeq (l.drop (i + 1)) ⟨an && en, if an then F1 else af, if en then F2 else el⟩ ⟨G.atoms, linkF G.thn al ef⟩ = T by rw [← hF1, ← hF2]; exact hT)
      have HSZ := Lib.hid (show G.atoms.length + sizes (l.drop (i + 1)) ≤ 64 by omega)
      obtain ⟨tv, uv, rfl⟩ := htr.iface
      clear hgk H hT hs hd hxi htr hp o1 o2 o3 o4 hsm h64 ha1 ha2 hF1 hF2
      go_wp2_with fail
      refine HL.out.mono ?_
      rintro e w1 ⟨rfl, hg1, hb1, ht1⟩
      clear q0 q1 q2 g0 g1 gq2 hc
      have hK0 := HH.out.res.tys ht1 (by decide) (by decide) (by decide)
      have hK1 := HH.out.all.tys ht1 (by decide) (by decide) (by decide)
      obtain ⟨q0, q1, q2, g0, g1, gq2⟩ := hK1.reads
      have hsz : w.heap.size + 1 < w1.heap.size := (Array.getElem?_eq_some_iff.1 hK1).1
      have hsz0 : w.heap.size < w1.heap.size := by omega
      obtain ⟨W2, hW2⟩ : ∃ W2, w1.alloc (Obj.cells #[.bool en, .int .u64 (ef : Int), .int .u64 (el : Int)] 112) = W2 := ⟨_, rfl⟩
      have hb2 : Below w1.heap.size w1 W2 := by rw [← hW2]; exact (Below.refl _ _).alloc (Nat.le_refl _) _
      have H2 := Lib.hid (show LaysW w bp w.heap.size t a b c W2 (.bool an) (.int .u64 (af : Int)) (.int .u64 (al : Int)) G ∧ Box3 W2 w1.heap.size (.bool en) (.int .u64 (ef : Int)) (.int .u64 (el : Int)) 112 from
        ⟨⟨hg1.below hb2, hK0.below hb2, hK1.below hb2, (HH.out.below.trans hb1).trans (hb2.mono (by omega)), (HH.out.tys.trans ht1).trans (Tys.of_below hb2), Nat.le_refl _, hlt⟩, by unfold Box3; rw [← hW2]; exact Array.getElem?_push_size⟩)
      have HW2 := Lib.hid hW2
      clear hg1 hb1 ht1 hK0 hK1 hW2 hb2
      go_wp2_with fail
      rw [HW2.out]
      clear q0 q1 q2 g0 g1 gq2
      refine (HLK.out W2 H2.out.1.gr).mono ?_
      rintro e w3 ⟨rfl, hg3, hb3, ht3⟩
      have H4 := Lib.hid (show LaysW w bp w.heap.size t a b c w3 (.bool an) (.int .u64 (af : Int)) (.int .u64 (al : Int)) ⟨G.atoms, linkF G.thn al ef⟩ from
        ⟨hg3, H2.out.1.res.tys ht3 (by decide) (by decide) (by decide), H2.out.1.all.tys ht3 (by decide) (by decide) (by decide), H2.out.1.below.trans hb3, H2.out.1.tys.trans ht3, Nat.le_refl _, hlt⟩)
      have hk2 := H2.out.2.tys ht3 (by decide) (by decide) (by decide)
      obtain ⟨q0, q1, q2, g0, g1, gq2⟩ := H4.out.all.reads
      obtain ⟨p0, p1, p2, _, _, _⟩ := hk2.reads
      have hne : w.heap.size + 1 ≠ w1.heap.size := by omega
      clear hg3 hb3 ht3 hk2
      cases an with
      | true =>
        cases en with
        | true =>
          have HT2 := Lib.hid (show laySeq (l.drop (i + 1)) ⟨true, F1, F2⟩ ⟨G.atoms, linkF G.thn al ef⟩ = T from HT.out)
          go_wp2_with fail
          go_roundg (gk - 1)
          case measure => have := HGK.out; omega
          case rel => exact ⟨i + 1, ⟨true, F1, F2⟩, ⟨G.atoms, linkF G.thn al ef⟩, by have := HGK.out; omega, by go_num, LaysW.done (e := ⟨true, F1, F2⟩) (((H4.out.step (x' := .bool true) (y' := .int .u64 (F1 : Int)) (z' := .int .u64 (al : Int)) 1 rfl).step (x' := .bool true) (y' := .int .u64 (F1 : Int)) (z' := .int .u64 (F2 : Int)) 2 rfl).step (x' := .bool true) (y' := .int .u64 (F1 : Int)) (z' := .int .u64 (F2 : Int)) 0 rfl) HG3.out ⟨HS.out.1.1, HS.out.1.2⟩, HT2.out, HSZ.out⟩
        | false =>
          have HT2 := Lib.hid (show laySeq (l.drop (i + 1)) ⟨false, F1, el⟩ ⟨G.atoms, linkF G.thn al ef⟩ = T from HT.out)
          go_wp2_with fail
          go_roundg (gk - 1)
          case measure => have := HGK.out; omega
          case rel => exact ⟨i + 1, ⟨false, F1, el⟩, ⟨G.atoms, linkF G.thn al ef⟩, by have := HGK.out; omega, by go_num, LaysW.done (e := ⟨false, F1, el⟩) (((H4.out.step (x' := .bool true) (y' := .int .u64 (F1 : Int)) (z' := .int .u64 (al : Int)) 1 rfl).step (x' := .bool true) (y' := .int .u64 (F1 : Int)) (z' := .int .u64 (el : Int)) 2 rfl).step (x' := .bool false) (y' := .int .u64 (F1 : Int)) (z' := .int .u64 (el : Int)) 0 rfl) HG3.out ⟨HS.out.1.1, HS.out.2.2⟩, HT2.out, HSZ.out⟩
      | false =>
        cases en with
        | true =>
          have HT2 := Lib.hid (show laySeq (l.drop (i + 1)) ⟨false, af, F2⟩ ⟨G.atoms, linkF G.thn al ef⟩ = T from HT.out)
          go_wp2_with fail
          go_roundg (gk - 1)
          case measure => have := HGK.out; omega
          case rel => exact ⟨i + 1, ⟨false, af, F2⟩, ⟨G.atoms, linkF G.thn al ef⟩, by have := HGK.out; omega, by go_num, LaysW.done (e := ⟨false, af, F2⟩) ((H4.out.step (x' := .bool false) (y' := .int .u64 (af : Int)) (z' := .int .u64 (F2 : Int)) 2 rfl).step (x' := .bool false) (y' := .int .u64 (af : Int)) (z' := .int .u64 (F2 : Int)) 0 rfl) HG3.out ⟨HS.out.2.1, HS.out.1.2⟩, HT2.out, HSZ.out⟩
        | false =>
          have HT2 := Lib.hid (show laySeq (l.drop (i + 1)) ⟨false, af, el⟩ ⟨G.atoms, linkF G.thn al ef⟩ = T from HT.out)
          go_wp2_with fail
          go_roundg (gk - 1)
          case measure => have := HGK.out; omega
          case rel => exact ⟨i + 1, ⟨false, af, el⟩, ⟨G.atoms, linkF G.thn al ef⟩, by have := HGK.out; omega, by go_num, LaysW.done (e := ⟨false, af, el⟩) ((H4.out.step (x' := .bool false) (y' := .int .u64 (af : Int)) (z' := .int .u64 (el : Int)) 2 rfl).step (x' := .bool false) (y' := .int .u64 (af : Int)) (z' := .int .u64 (el : Int)) 0 rfl) HG3.out ⟨HS.out.2.1, HS.out.2.2⟩, HT2.out, HSZ.out⟩
    · have i1 : (n : Int) ≤ i := by omega
      have hdn : l.drop i = [] := List.drop_eq_nil_of_le (by rw [HN.out]; omega)
      have HT2 := Lib.hid (show T = (e, g2) by rw [← hT, hdn]; rfl)
      obtain ⟨an, af, al⟩ := e
      dsimp only at q0 q1 q2
      obtain ⟨x0, x1, x2, y0, y1, y2⟩ := H.res.reads
      obtain ⟨k1, k2, k3⟩ := put_done (p := .bool an) (q := .int .u64 (af : Int)) (r := .int .u64 (al : Int)) H.gr H.res H.below H.tys H.base hlt
      have HK := Lib.hid (And.intro k1 (And.intro k2 k3))
      clear hgk H hT hs hdn k1 k2 k3
      go_wp2_with fail
      refine bodyPost_ret (v := .agg #[.bool an, .int .u64 af, .int .u64 al]) (by simp [results, Try.results68, go_sem, x0, x1, x2]) rfl ?_
      rw [HT2.out]
      exact ⟨rfl, HK.out.1, HK.out.2.1, HK.out.2.2⟩
end Go.Proofs.Ytmidpekkomhogaa.Pat
end

section
/- Patterns: any part is laid. -/

namespace Go.Proofs.Ytmidpekkomhogaa.Pat
open Go.RowKit

theorem is62 (v : Value) (W : World) : (Instr.typeAssert (.iface 128 v) 102 128 true).run Try.prog W = .ok (.tuple #[v, .bool true]) W := by kernel_rfl
theorem is65 (v : Value) (W : World) : (Instr.typeAssert (.iface 131 v) 102 131 true).run Try.prog W = .ok (.tuple #[v, .bool true]) W := by kernel_rfl
theorem is69 (v : Value) (W : World) : (Instr.typeAssert (.iface 135 v) 102 135 true).run Try.prog W = .ok (.tuple #[v, .bool true]) W := by kernel_rfl
theorem no62_65 (v : Value) (W : World) : (Instr.typeAssert (.iface 131 v) 102 128 true).run Try.prog W = .ok (.tuple #[.slice none 0 0, .bool false]) W := by kernel_rfl
theorem no62_69 (v : Value) (W : World) : (Instr.typeAssert (.iface 135 v) 102 128 true).run Try.prog W = .ok (.tuple #[.slice none 0 0, .bool false]) W := by kernel_rfl
theorem no62_80 (v : Value) (W : World) : (Instr.typeAssert (.iface 148 v) 102 128 true).run Try.prog W = .ok (.tuple #[.slice none 0 0, .bool false]) W := by kernel_rfl
theorem no62_84 (v : Value) (W : World) : (Instr.typeAssert (.iface 152 v) 102 128 true).run Try.prog W = .ok (.tuple #[.slice none 0 0, .bool false]) W := by kernel_rfl
theorem no62_87 (v : Value) (W : World) : (Instr.typeAssert (.iface 155 v) 102 128 true).run Try.prog W = .ok (.tuple #[.slice none 0 0, .bool false]) W := by kernel_rfl
theorem no65_69 (v : Value) (W : World) : (Instr.typeAssert (.iface 135 v) 102 131 true).run Try.prog W = .ok (.tuple #[.slice none 0 0, .bool false]) W := by kernel_rfl
theorem no65_80 (v : Value) (W : World) : (Instr.typeAssert (.iface 148 v) 102 131 true).run Try.prog W = .ok (.tuple #[.slice none 0 0, .bool false]) W := by kernel_rfl
theorem no65_84 (v : Value) (W : World) : (Instr.typeAssert (.iface 152 v) 102 131 true).run Try.prog W = .ok (.tuple #[.slice none 0 0, .bool false]) W := by kernel_rfl
theorem no65_87 (v : Value) (W : World) : (Instr.typeAssert (.iface 155 v) 102 131 true).run Try.prog W = .ok (.tuple #[.slice none 0 0, .bool false]) W := by kernel_rfl
theorem no69_80 (v : Value) (W : World) : (Instr.typeAssert (.iface 148 v) 102 135 true).run Try.prog W = .ok (.tuple #[.agg #[.nilIface, .bool false, .bool false], .bool false]) W := by kernel_rfl
theorem no69_84 (v : Value) (W : World) : (Instr.typeAssert (.iface 152 v) 102 135 true).run Try.prog W = .ok (.tuple #[.agg #[.nilIface, .bool false, .bool false], .bool false]) W := by kernel_rfl
theorem no69_87 (v : Value) (W : World) : (Instr.typeAssert (.iface 155 v) 102 135 true).run Try.prog W = .ok (.tuple #[.agg #[.nilIface, .bool false, .bool false], .bool false]) W := by kernel_rfl

/-- A call whose result is stored in a box of the call's own, ahead of the return. -/
theorem LayRes.put {w W w1 : World} {bp : Nat} {t a b c p q r : Value} {T : Eg × Gr} {e : Ending} (h : LayRes W bp t a b c T e w1) (hW : Below w.heap.size w W) (hk : Box3 W w.heap.size (.bool false) (.int .u64 0) (.int .u64 0) 112) (hlt : bp < w.heap.size) :
    GrAt (((w1.setCell ⟨w.heap.size, 0, none⟩ p).setCell ⟨w.heap.size, 1, none⟩ q).setCell ⟨w.heap.size, 2, none⟩ r) bp t a b c T.2 ∧ Below bp w (((w1.setCell ⟨w.heap.size, 0, none⟩ p).setCell ⟨w.heap.size, 1, none⟩ q).setCell ⟨w.heap.size, 2, none⟩ r) ∧ Tys w (((w1.setCell ⟨w.heap.size, 0, none⟩ p).setCell ⟨w.heap.size, 1, none⟩ q).setCell ⟨w.heap.size, 2, none⟩ r) :=
  put_done h.2.1 (hk.tys h.2.2.2 (by decide) (by decide) (by decide)) ((hW.mono (Nat.le_of_lt hlt)).trans h.2.2.1) ((Tys.of_below hW).trans h.2.2.2) (Nat.le_refl _) hlt

set_option maxHeartbeats 4000000 in
set_option maxRecDepth 100000 in
theorem lay_choice (l : List Pt) (hx : ∀ x ∈ l, LayC x) : LayC (.choice l) := by
  intro w bp t a b c v g h ht hs hok
  have hlt := h.lt
  cases ht with
  | choice o n cap vs _ hn hl hm hsee hkids =>
    have hb0 : Below w.heap.size w (w.alloc (Obj.cells #[.bool false, .int .u64 0, .int .u64 0] 112)) := (Below.refl _ _).alloc (Nat.le_refl _) _
    have hk0 : Box3 (w.alloc (Obj.cells #[.bool false, .int .u64 0, .int .u64 0] 112)) w.heap.size (.bool false) (.int .u64 0) (.int .u64 0) 112 := Array.getElem?_push_size
    have hL : ListAt w bp o vs l := ⟨hsee, by omega, hkids⟩
    have hL2 : ListAt (w.alloc (Obj.cells #[.bool false, .int .u64 0, .int .u64 0] 112)) bp o vs l := ⟨hsee.keep fun k hp hl => ⟨hb0.block k hl, hp⟩, hL.len, fun j u x hu hx => (hkids j u x hu hx).stays hb0⟩
    have HC := Lib.hid (layChoice_of l hx _ bp t a b c g o n cap vs (h.below hb0) hL2 hl hm hs hok)
    rw [layF]
    obtain ⟨T, hT⟩ : ∃ T, layAlts l ⟨false, 0, 0⟩ g = T := ⟨_, rfl⟩
    rw [hT] at HC ⊢
    have HK := Lib.hid (And.intro hb0 hk0)
    clear h hsee hkids hL hL2 hb0 hk0 hT hs hok hx
    have i1 := is62
    go_enter Try.func58, Try.ntmps58
    go_wp2_with fail
    refine HC.out.mono ?_
    intro e w1 H1
    have h1 := H1
    obtain ⟨rfl, _, _, ht1⟩ := h1
    have hbx := HK.out.2.tys ht1 (by decide) (by decide) (by decide)
    obtain ⟨x0, x1, x2, y0, y1, y2⟩ := hbx.reads
    have HP := Lib.hid (fun p q r => LayRes.put (p := p) (q := q) (r := r) H1 HK.out.1 HK.out.2 hlt)
    clear H1 ht1 hbx HC
    go_wp2_with fail
    obtain ⟨k1, k2, k3⟩ := HP.out (.bool T.1.none) (.int .u64 (T.1.first : Int)) (.int .u64 (T.1.last : Int))
    refine bodyPost_ret (v := .agg #[.bool T.1.none, .int .u64 T.1.first, .int .u64 T.1.last]) (by simp [results, Try.results58, go_sem, x0, x1, x2]) rfl ⟨rfl, k1, k2, k3⟩
set_option maxHeartbeats 4000000 in
set_option maxRecDepth 100000 in
theorem lay_chain (l : List Pt) (hx : ∀ x ∈ l, LayC x) : LayC (.chain l) := by
  intro w bp t a b c v g h ht hs hok
  have hlt := h.lt
  cases ht with
  | chain o n cap vs _ hn hl hm hsee hkids =>
    have hb0 : Below w.heap.size w (w.alloc (Obj.cells #[.bool false, .int .u64 0, .int .u64 0] 112)) := (Below.refl _ _).alloc (Nat.le_refl _) _
    have hk0 : Box3 (w.alloc (Obj.cells #[.bool false, .int .u64 0, .int .u64 0] 112)) w.heap.size (.bool false) (.int .u64 0) (.int .u64 0) 112 := Array.getElem?_push_size
    have hL : ListAt w bp o vs l := ⟨hsee, by omega, hkids⟩
    have hL2 : ListAt (w.alloc (Obj.cells #[.bool false, .int .u64 0, .int .u64 0] 112)) bp o vs l := ⟨hsee.keep fun k hp hl => ⟨hb0.block k hl, hp⟩, hL.len, fun j u x hu hx => (hkids j u x hu hx).stays hb0⟩
    have HC := Lib.hid (layChain_of l hx _ bp t a b c g o n cap vs (h.below hb0) hL2 hl hm hs hok)
    rw [layF]
    obtain ⟨T, hT⟩ : ∃ T, laySeq l ⟨true, 0, 0⟩ g = T := ⟨_, rfl⟩
    rw [hT] at HC ⊢
    have HK := Lib.hid (And.intro hb0 hk0)
    clear h hsee hkids hL hL2 hb0 hk0 hT hs hok hx
    have i1 := no62_65
    have i2 := is65
    go_enter Try.func58, Try.ntmps58
    go_wp2_with fail
    refine HC.out.mono ?_
    intro e w1 H1
    have h1 := H1
    obtain ⟨rfl, _, _, ht1⟩ := h1
    have hbx := HK.out.2.tys ht1 (by decide) (by decide) (by decide)
    obtain ⟨x0, x1, x2, y0, y1, y2⟩ := hbx.reads
    have HP := Lib.hid (fun p q r => LayRes.put (p := p) (q := q) (r := r) H1 HK.out.1 HK.out.2 hlt)
    clear H1 ht1 hbx HC
    go_wp2_with fail
    obtain ⟨k1, k2, k3⟩ := HP.out (.bool T.1.none) (.int .u64 (T.1.first : Int)) (.int .u64 (T.1.last : Int))
    refine bodyPost_ret (v := .agg #[.bool T.1.none, .int .u64 T.1.first, .int .u64 T.1.last]) (by simp [results, Try.results58, go_sem, x0, x1, x2]) rfl ⟨rfl, k1, k2, k3⟩
set_option maxHeartbeats 4000000 in
set_option maxRecDepth 100000 in
theorem lay_times (x : Pt) (a1 b1 : Bool) (hx : LayC x) : LayC (.times x a1 b1) := by
  intro w bp t a b c v g h ht hs hok
  have hlt := h.lt
  cases ht with
  | times v2 _ _ _ hv =>
    obtain ⟨tv, uv, rfl⟩ := hv.iface
    obtain ⟨W, hW⟩ : ∃ W, (w.alloc (Obj.cells #[.bool false, .int .u64 0, .int .u64 0] 112)).alloc (Obj.cells #[.iface tv uv, .bool a1, .bool b1] 135) = W := ⟨_, rfl⟩
    have hb0 : Below w.heap.size w W := by rw [← hW]; exact ((Below.refl _ _).alloc (Nat.le_refl _) _).alloc (by simp) _
    have hk0 : Box3 W w.heap.size (.bool false) (.int .u64 0) (.int .u64 0) 112 := by
      unfold Box3
      rw [← hW, Below.heap_alloc _ _ _ (by simp)]
      exact Array.getElem?_push_size
    have HC := Lib.hid (layTimes_of x hx a1 b1 W bp t a b c (.iface tv uv) g (h.below hb0) (hv.stays hb0) hs hok)
    rw [layF]
    obtain ⟨T, hT⟩ : ∃ T, timesG a1 b1 (layF x g) = T := ⟨_, rfl⟩
    rw [hT] at HC ⊢
    have HK := Lib.hid (And.intro hb0 hk0)
    have HW := Lib.hid hW
    clear h hv hb0 hk0 hT hs hok hx hW
    have i1 := no62_69
    have i2 := no65_69
    have i3 := is69
    go_enter Try.func58, Try.ntmps58
    go_wp2_with fail
    rw [HW.out]
    refine HC.out.mono ?_
    intro e w1 H1
    have h1 := H1
    obtain ⟨rfl, _, _, ht1⟩ := h1
    have hbx := HK.out.2.tys ht1 (by decide) (by decide) (by decide)
    obtain ⟨x0, x1, x2, y0, y1, y2⟩ := hbx.reads
    have HP := Lib.hid (fun p q r => LayRes.put (p := p) (q := q) (r := r) H1 HK.out.1 HK.out.2 hlt)
    clear H1 ht1 hbx HC
    go_wp2_with fail
    obtain ⟨k1, k2, k3⟩ := HP.out (.bool T.1.none) (.int .u64 (T.1.first : Int)) (.int .u64 (T.1.last : Int))
    refine bodyPost_ret (v := .agg #[.bool T.1.none, .int .u64 T.1.first, .int .u64 T.1.last]) (by simp [results, Try.results58, go_sem, x0, x1, x2]) rfl ⟨rfl, k1, k2, k3⟩
/-- An atom, by the number of its kind. -/
def AtomV (ty : TypeId) : Prop := (∀ (v : Value) (W : World), (Instr.typeAssert (.iface ty v) 102 128 true).run Try.prog W = .ok (.tuple #[.slice none 0 0, .bool false]) W) ∧ (∀ (v : Value) (W : World), (Instr.typeAssert (.iface ty v) 102 131 true).run Try.prog W = .ok (.tuple #[.slice none 0 0, .bool false]) W) ∧ ∀ (v : Value) (W : World), (Instr.typeAssert (.iface ty v) 102 135 true).run Try.prog W = .ok (.tuple #[.agg #[.nilIface, .bool false, .bool false], .bool false]) W
set_option maxHeartbeats 4000000 in
set_option maxRecDepth 100000 in
theorem lay_atom (x : Pt) (hx1 : x.size = 1) (hf : ∀ g, layF x g = layAtomF x g) (ty : TypeId) (u : Value) (hA : AtomV ty) (w : World) (bp : Nat) (t a b c : Value) (g : Gr) (h : GrAt w bp t a b c g) (ht : Tree w (fun k => k < bp) (.iface ty u) x) (hs : g.atoms.length + x.size ≤ 64) (hok : GrOk g) :
    Calls Try.prog 58 #[.pointer (some ⟨bp, 1, none⟩), .iface ty u] w (LayRes w bp t a b c (layF x g)) := by
  have hlt := h.lt
  obtain ⟨W, hW⟩ : ∃ W, (w.alloc (Obj.cells #[.bool false, .int .u64 0, .int .u64 0] 112)).alloc (Obj.cells #[.nilIface, .bool false, .bool false] 135) = W := ⟨_, rfl⟩
  have hb0 : Below w.heap.size w W := by rw [← hW]; exact ((Below.refl _ _).alloc (Nat.le_refl _) _).alloc (by simp) _
  have hk0 : Box3 W w.heap.size (.bool false) (.int .u64 0) (.int .u64 0) 112 := by
    unfold Box3
    rw [← hW, Below.heap_alloc _ _ _ (by simp)]
    exact Array.getElem?_push_size
  have HC := Lib.hid (show Calls Try.prog 70 #[.pointer (some ⟨bp, 1, none⟩), .iface ty u] W (LayRes W bp t a b c (layAtomF x g)) from layAtom_any bp t a b c g (.iface ty u) x W (h.below hb0) (ht.stays hb0) (by omega) hok)
  rw [hf]
  obtain ⟨T, hT⟩ : ∃ T, layAtomF x g = T := ⟨_, rfl⟩
  rw [hT] at HC ⊢
  have HK := Lib.hid (And.intro hb0 hk0)
  have HW := Lib.hid hW
  obtain ⟨i1, i2, i3⟩ := hA
  clear h ht hb0 hk0 hT hs hok hx1 hf hW
  go_enter Try.func58, Try.ntmps58
  go_wp2_with fail
  rw [HW.out]
  refine HC.out.mono ?_
  intro e w1 H1
  have h1 := H1
  obtain ⟨rfl, _, _, ht1⟩ := h1
  have hbx := HK.out.2.tys ht1 (by decide) (by decide) (by decide)
  obtain ⟨x0, x1, x2, y0, y1, y2⟩ := hbx.reads
  have HP := Lib.hid (fun p q r => LayRes.put (p := p) (q := q) (r := r) H1 HK.out.1 HK.out.2 hlt)
  clear H1 ht1 hbx HC
  go_wp2_with fail
  obtain ⟨k1, k2, k3⟩ := HP.out (.bool T.1.none) (.int .u64 (T.1.first : Int)) (.int .u64 (T.1.last : Int))
  refine bodyPost_ret (v := .agg #[.bool T.1.none, .int .u64 T.1.first, .int .u64 T.1.last]) (by simp [results, Try.results58, go_sem, x0, x1, x2]) rfl ⟨rfl, k1, k2, k3⟩

theorem lay_any : ∀ x : Pt, LayC x
  | .choice l => lay_choice l (fun y hy => lay_any y)
  | .chain l => lay_chain l (fun y hy => lay_any y)
  | .times x a b => lay_times x a b (lay_any x)
  | .only r => fun w bp t a b c v g h ht hs hok => by
    cases ht with
    | only r => exact lay_atom (.only r) rfl (fun g => by rw [layF]) 148 _ ⟨no62_80, no65_80, no69_80⟩ w bp t a b c g h (.only r) hs hok
  | .cls n xs => fun w bp t a b c v g h ht hs hok => by
    cases ht with
    | cls _ o k cap _ hn hm hse => exact lay_atom (.cls n xs) rfl (fun g => by rw [layF]) 152 _ ⟨no62_84, no65_84, no69_84⟩ w bp t a b c g h (.cls n o k cap xs hn hm hse) hs hok
  | .dot => fun w bp t a b c v g h ht hs hok => by
    cases ht with
    | dot => exact lay_atom .dot rfl (fun g => by rw [layF]) 155 _ ⟨no62_87, no65_87, no69_87⟩ w bp t a b c g h .dot hs hok
end Go.Proofs.Ytmidpekkomhogaa.Pat
end
