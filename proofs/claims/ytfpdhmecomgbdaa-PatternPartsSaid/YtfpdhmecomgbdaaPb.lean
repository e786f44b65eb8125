/- Patterns: an item of a class; how often an atom may stand. -/
import Derived.Test.YtfpdhmecomgbdaaPa
namespace Go.Proofs.Ytfpdhmecomgbdaa
open Go.RowKit

theorem Rd.kept {w w' : World} {bd : Nat} {l : List Sg} (h : Rd w bd l) (hb : Below w.heap.size w w') : Rd w' bd l := h.below hb
theorem Rd.cell {w : World} {bd : Nat} {l : List Sg} (h : Rd w bd l) : ∃ o cap, w.cell? ⟨bd, 0, none⟩ = some (.slice o l.length cap) ∧ l.length ≤ 1000000 ∧ w.frozen? ⟨bd, 0, none⟩ = false ∧ (l = [] ∨ ∃ b off, o = some ⟨b, off, none⟩ ∧ SigAt w b off l) := by
  obtain ⟨v, h1, o, cap, rfl, hc, hm, h2⟩ := h
  exact ⟨o, cap, by simp [World.cell?, h1], hm.1, by simp [World.frozen?, h1], h2.imp id fun ⟨b, off, e, _, hs⟩ => ⟨b, off, e, hs⟩⟩

theorem field74 (a b : Value) (W : World) : (Instr.field 74 (.agg #[a, b]) 0).run Try.prog W = .ok a W := by kernel_rfl
/-- A box of two cells that the call has made. -/
def Box (w : World) (k : Nat) (a b : Value) (t : TypeId) : Prop := w.heap[k]? = some (.cells #[a, b] t (0, 0))
theorem Box.reads {w : World} {k : Nat} {a b : Value} {t : TypeId} (h : Box w k a b t) : w.cell? ⟨k, 0, none⟩ = some a ∧ w.cell? ⟨k, 1, none⟩ = some b ∧ w.frozen? ⟨k, 0, none⟩ = false ∧ w.frozen? ⟨k, 1, none⟩ = false := by
  unfold Box at h
  refine ⟨?_, ?_, ?_, ?_⟩ <;> simp [World.cell?, World.frozen?, h]
theorem next_cont (bd k : Nat) (a b : Value) (ty : TypeId) (s : Sg) (t : List Sg) (w0 w : World) (h : Rd w bd (s :: t)) (hg : w0.grownBy w (some bd)) (hk : bd < k) (hb : Box w k a b ty) :
    Calls Try.prog 37 #[.pointer (some ⟨bd, 0, none⟩)] w fun e w' => e = .returned (.agg #[.int .i32 s.1, .bool s.2]) ∧ Hid (Rd w' bd t ∧ w0.grownBy w' (some bd) ∧ Box w' k a b ty) :=
  (next_any bd s t w h).mono fun _ _ q => ⟨q.1, q.2.1, grown_trans hg q.2.2, (q.2.2.block k (Array.getElem?_eq_some_iff.1 hb).1 (by simp; omega)).trans hb⟩

set_option maxHeartbeats 2000000 in
set_option maxRecDepth 100000 in
theorem item_any (bd : Nat) (s : Sg) (t : List Sg) (w : World) (h : Rd w bd (s :: t)) :
    Calls Try.prog 40 #[.pointer (some ⟨bd, 0, none⟩)] w fun e w' => e = .returned (.agg #[.int .i32 (itemF (s :: t)).1.1, .int .i32 (itemF (s :: t)).1.2]) ∧ Rd w' bd (itemF (s :: t)).2 ∧ w.grownBy w' (some bd) := by
  have hlt := h.lt
  have hbox : Box (w.alloc (.cells #[.int .i32 0, .int .i32 0] 92)) w.heap.size (.int .i32 0) (.int .i32 0) 92 := Array.getElem?_push_size
  have HNE := Lib.hid (next_cont bd w.heap.size _ _ _ s t w _ (h.alloc (.cells #[.int .i32 0, .int .i32 0] 92)) (grown_alloc (grown_refl _ _) _) hlt hbox)
  clear h hbox
  cases hat : atB t 45 with
  | false =>
    have HAT := Lib.hid hat
    have HI := Lib.hid (show itemF (s :: t) = ((s.1, s.1), t) by unfold itemF; dsimp only; rw [hat]; rfl)
    clear hat
    have hf := field74
    go_enter Try.func40, Try.ntmps40
    go_wp2_with fail
    refine HNE.out.mono ?_
    rintro e w1 ⟨rfl, H1⟩
    obtain ⟨r0, r1, f0, f1⟩ := H1.out.2.2.reads
    go_wp2_with fail
    refine (at_is bd t 45 false HAT.out _ H1.out.1).mono ?_
    rintro e w2 ⟨rfl, rfl⟩
    go_wp2
    rw [HI.out]
    refine bodyPost_ret (v := .agg #[.int .i32 s.1, .int .i32 s.1]) (by simp [results, Try.results40, go_sem, r0, r1]) rfl ⟨rfl, (H1.out.1.setNew hlt _ _).setNew hlt _ _, grown_setNew (grown_setNew H1.out.2.1 (Nat.le_refl _) _ _) (Nat.le_refl _) _ _⟩
  | true =>
    cases t with
    | nil => simp [atB] at hat
    | cons s1 t1 =>
      have HAT := Lib.hid hat
      clear hat
      cases t1 with
      | nil =>
        have HI := Lib.hid (show itemF [s, s1] = ((s.1, s.1), [s1]) by simp [itemF])
        have hf := field74
        go_enter Try.func40, Try.ntmps40
        go_wp2_with fail
        refine HNE.out.mono ?_
        rintro e w1 ⟨rfl, H1⟩
        obtain ⟨r0, r1, f0, f1⟩ := H1.out.2.2.reads
        obtain ⟨o, cap, hcell, _, _, _⟩ := H1.out.1.cell
        replace hcell : w1.cell? ⟨bd, 0, none⟩ = some (.slice o 1 cap) := hcell
        go_wp2_with fail
        refine (at_is bd [s1] 45 true HAT.out _ H1.out.1).mono ?_
        rintro e w2 ⟨rfl, rfl⟩
        go_wp2
        rw [HI.out]
        refine bodyPost_ret (v := .agg #[.int .i32 s.1, .int .i32 s.1]) (by simp [results, Try.results40, go_sem, r0, r1]) rfl ⟨rfl, (H1.out.1.setNew hlt _ _).setNew hlt _ _, grown_setNew (grown_setNew H1.out.2.1 (Nat.le_refl _) _ _) (Nat.le_refl _) _ _⟩
      | cons s2 t2 =>
        obtain ⟨x, hx⟩ : ∃ x, atB (s2 :: t2) 93 = x := ⟨_, rfl⟩
        have hx2 := hx
        simp only [atB] at hx2
        have HI := Lib.hid (show itemF (s :: s1 :: s2 :: t2) = if x then ((s.1, s.1), s1 :: s2 :: t2) else ((s.1, s2.1), t2) by
          have := HAT.out
          simp only [itemF, this]
          simp [hx]
          cases x <;> simp)
        have hf := field74
        obtain ⟨n, hn⟩ : ∃ n, (s1 :: s2 :: t2).length = n := ⟨_, rfl⟩
        have h2n : 2 ≤ n := by rw [← hn]; simp
        have i2 : (2 : Int) ≤ n := by omega
        have i1 : (1 : Int) < n := by omega
        have HN := Lib.hid hn
        clear hn hx
        cases x with
        | true =>
          have HX : s2.1 = 93 ∧ s2.2 = true := by simpa using hx2
          obtain ⟨x1, x2⟩ := HX
          have X1 := Lib.hid x1
          have X2 := Lib.hid x2
          clear hx2 x1 x2
          go_enter Try.func40, Try.ntmps40
          go_wp2_with fail
          refine HNE.out.mono ?_
          rintro e w1 ⟨rfl, H1⟩
          obtain ⟨r0, r1, f0, f1⟩ := H1.out.2.2.reads
          obtain ⟨o, cap, hcell, hm, _, h2⟩ := H1.out.1.cell
          rcases h2 with h2 | ⟨b, off, rfl, hs⟩
          · cases h2
          have c0 := hs.at0 1 s2 rfl
          have c1 := hs.at1 1 s2 rfl
          simp only [Nat.one_mul] at c0 c1
          rw [X1.out] at c0
          rw [X2.out] at c1
          rw [HN.out] at hcell hm
          clear hs
          go_wp2_with fail
          refine (at_is bd _ 45 true HAT.out _ H1.out.1).mono ?_
          rintro e w2 ⟨rfl, rfl⟩
          go_wp2
          rw [HI.out]
          refine bodyPost_ret (v := .agg #[.int .i32 s.1, .int .i32 s.1]) (by simp [results, Try.results40, go_sem, r0, r1]) rfl ⟨rfl, (H1.out.1.setNew hlt _ _).setNew hlt _ _, grown_setNew (grown_setNew H1.out.2.1 (Nat.le_refl _) _ _) (Nat.le_refl _) _ _⟩
        | false =>
          have HX := Lib.hid hx2
          clear hx2
          go_enter Try.func40, Try.ntmps40
          go_wp2_with fail
          refine HNE.out.mono ?_
          rintro e w1 ⟨rfl, H1⟩
          obtain ⟨o, cap, hcell, hm, _, h2⟩ := H1.out.1.cell
          rcases h2 with h2 | ⟨b, off, rfl, hs⟩
          · cases h2
          have c0 := hs.at0 1 s2 rfl
          have c1 := hs.at1 1 s2 rfl
          simp only [Nat.one_mul] at c0 c1
          rw [HN.out] at hcell hm
          clear hs
          obtain ⟨y1, hy1⟩ : ∃ y, s2.1 = y := ⟨_, rfl⟩
          obtain ⟨y2, hy2⟩ : ∃ y, s2.2 = y := ⟨_, rfl⟩
          have HXY := Lib.hid (show (y1 == 93 && y2) = false by rw [← hy1, ← hy2]; exact HX.out)
          rw [hy1] at c0
          rw [hy2] at c1
          have HY1 := Lib.hid hy1
          clear hy1 hy2 HX
          rcases (show (y1 == 93) = false ∨ (y1 = 93 ∧ y2 = false) by
            have := HXY.out
            cases h : (y1 == 93) with
            | false => exact .inl rfl
            | true => rw [h] at this; exact .inr ⟨by simpa using h, by simpa using this⟩) with hy | ⟨rfl, rfl⟩
          all_goals
            go_wp2_with fail
            refine (at_is bd _ 45 true HAT.out _ H1.out.1).mono ?_
            rintro e w2 ⟨rfl, rfl⟩
            go_wp2_with fail
            refine (next_cont bd w.heap.size _ _ _ s1 (s2 :: t2) w w1 H1.out.1 H1.out.2.1 hlt H1.out.2.2).mono ?_
            clear c0 c1 hcell
            rintro e w2 ⟨rfl, H2⟩
            go_wp2_with fail
            refine (next_cont bd w.heap.size _ _ _ s2 t2 w w2 H2.out.1 H2.out.2.1 hlt H2.out.2.2).mono ?_
            rintro e w3 ⟨rfl, H3⟩
            obtain ⟨r0, r1, f0, f1⟩ := H3.out.2.2.reads
            go_wp2
            rw [HI.out]
            refine bodyPost_ret (v := .agg #[.int .i32 s.1, .int .i32 s2.1]) (by simp [results, Try.results40, go_sem, r0, r1]) rfl ⟨rfl, (H3.out.1.setNew hlt _ _).setNew hlt _ _, grown_setNew (grown_setNew H3.out.2.1 (Nat.le_refl _) _ _) (Nat.le_refl _) _ _⟩
end Go.Proofs.Ytfpdhmecomgbdaa
