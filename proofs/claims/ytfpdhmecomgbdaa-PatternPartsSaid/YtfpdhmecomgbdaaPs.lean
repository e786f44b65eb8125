/- Patterns: a text is held against a pattern. -/
import Derived.Test.YtfpdhmecomgbdaaPr
import Derived.Test.YtfpdhmecomgbdaaWk0
namespace Go.Proofs.Ytfpdhmecomgbdaa
open Go.RowKit

/-- A pattern in memory. -/
def PatAt (w : World) (bp : Nat) (s : ByteArray) (p : Eg × Gr) : Prop := GrAt w bp (.string s) (.bool p.1.none) (.int .u64 (p.1.first : Int)) (.int .u64 (p.1.last : Int)) p.2
structure PatOk (p : Eg × Gr) : Prop where
  ok : GrOk p.2
  few : p.2.atoms.length ≤ 64
  first : p.1.first < 2 ^ 64
  last : p.1.last < 2 ^ 64
theorem PatAt.below {w w' : World} {bp : Nat} {s : ByteArray} {p : Eg × Gr} (h : PatAt w bp s p) (hb : Below w.heap.size w w') : PatAt w' bp s p := GrAt.below h hb
theorem PatAt.under {w w' : World} {bp : Nat} {s : ByteArray} {p : Eg × Gr} (h : PatAt w bp s p) (hb : Below w.heap.size w w') : PatAt w' bp s p := h.below hb
theorem GrAt.tail {w : World} {bp : Nat} {t a b c : Value} {g : Gr} (h : GrAt w bp t a b c g) : w.cell? ⟨bp, 3, none⟩ = some a ∧ w.cell? ⟨bp, 4, none⟩ = some b ∧ w.cell? ⟨bp, 5, none⟩ = some c ∧ w.cell? ⟨bp, 0, none⟩ = some t := by
  obtain ⟨va, vt, vs, hp, _⟩ := h
  obtain ⟨q0, _, _, q3, q4, q5, _⟩ := hp.reads
  exact ⟨q3, q4, q5, q0⟩
theorem and_at {A B : Nat} (hA : A < 2 ^ 64) (hB : B < 2 ^ 64) : (bits .and .u64 (A : Int) (B : Int) != 0) = decide (A &&& B ≠ 0) := by
  have h64 : (2 : Nat) ^ 64 = 18446744073709551616 := by decide
  rw [u64_and_nat _ _ (by rw [← h64]; exact hA) (by rw [← h64]; exact hB)]
  generalize A &&& B = m
  cases m with
  | zero => rfl
  | succ k => simp; omega

set_option maxHeartbeats 4000000 in
set_option maxRecDepth 100000 in
theorem begins_any (bp : Nat) (ps : ByteArray) (p : Eg × Gr) (s : ByteArray) (w : World) (h : PatAt w bp ps p) (hok : PatOk p) (hs : s.size ≤ 1099511627776) :
    Calls Try.prog 14 #[.pointer (some ⟨bp, 0, none⟩), .string s] w fun e w' => e = .returned (.int .i64 (begF p (spell s.data.toList))) ∧ Below w.heap.size w w' := by
  have hlt := GrAt.lt h
  obtain ⟨R, hR⟩ : ∃ R, begF p (spell s.data.toList) = R := ⟨_, rfl⟩
  rw [hR]
  obtain ⟨⟨pn, pf, pl⟩, g⟩ := p
  have HP := Lib.hid h
  obtain ⟨va, vt, vs, hpat, _⟩ := h
  obtain ⟨_, _, _, p3, p4, p5, _, _, _⟩ := hpat.reads
  dsimp only at p3 p4 p5
  have HOK := Lib.hid hok
  have HR := Lib.hid hR
  clear hpat hok hR
  have key : ∀ (m : Int), m = (if pn then 0 else -1) → Hid (begGo g pl pf 0 m (spell (s.data.toList.drop 0)) = R) := by
    intro m hm
    subst hm
    show _ = _
    have := HR.out
    unfold begF at this
    simpa using this
  have KEY := Lib.hid key
  clear key
  cases pn with
  | true =>
    have K0 := KEY.out 0 rfl
    clear KEY
    go_enter Try.func14, Try.ntmps14
    go_wp2_with fail
    go_loopw [5, 6, 7] (fun v5 v6 v7 wr => ∃ (pos k op : Nat) (m : Int), v5 = .int .i64 m ∧ v6 = .int .u64 (op : Int) ∧ v7 = .int .i64 k ∧ wr.heap[w.heap.size]? = some (.stringIter s pos) ∧ Hid (Below w.heap.size w wr ∧ begGo g pl op k m (spell (s.data.toList.drop pos)) = R ∧ op < 2 ^ 64) ∧ k ≤ pos ∧ pos ≤ s.size) (fun _ _ _ wr => s.size - wr.iterPos w.heap.size)
    case atStart => exact ⟨0, 0, pf, 0, rfl, rfl, rfl, World.iter_heap w s 0, ⟨(Below.refl _ _).alloc (Nat.le_refl _) _, K0.out, HOK.out.first⟩, Nat.le_refl _, Nat.zero_le _⟩
    case round =>
      clear K0
      obtain ⟨pos, k, op, m, rfl, rfl, rfl, hit, H, hk, hps⟩ := hrel
      have hpos0 := iterPos_of hit
      by_cases hp : pos < s.size
      · have hnx : ∀ ty, (Instr.next (.pointer (some ⟨w.heap.size, 0, none⟩)) true ty).run Try.prog wr = _ := fun ty => Lib.run_next_any_at wr w.heap.size s pos ty hit hp
        have hwd := width1 s pos
        have hwl := width_le hp
        have hit2 := Lib.iterAt_heap wr w.heap.size s pos (pos + (Utf8.decode s pos).2) hit
        have hbw2 := Lib.below_iterAt H.out.1 (k := w.heap.size) (Nat.le_refl _) s (pos + (Utf8.decode s pos).2)
        have hsp := spell_at hp
        obtain ⟨r, hr⟩ : ∃ r : Int, ((Utf8.decode s pos).1 : Int) = r := ⟨_, rfl⟩
        rw [hr] at hsp
        obtain ⟨W1, hW1⟩ : ∃ W1, W1 = wr.iterAt w.heap.size s (pos + (Utf8.decode s pos).2) := ⟨_, rfl⟩
        rw [← hW1] at hnx hit2 hbw2
        rw [hr] at hnx
        obtain ⟨p2, hp2⟩ : ∃ p2, pos + (Utf8.decode s pos).2 = p2 := ⟨_, rfl⟩
        rw [hp2] at hit2 hwl hsp
        have hlt2 : pos < p2 := by omega
        have HG1 := Lib.hid (show GrAt W1 bp (.string ps) (.bool true) (.int .u64 (pf : Int)) (.int .u64 (pl : Int)) g from (PatAt.under HP.out hbw2))
        have HHT := Lib.hid (hit_any bp _ _ _ _ g op r W1 HG1.out HOK.out.few H.out.2.2)
        have hh64 : hitF g op r < 2 ^ 64 := pow_mono (hitF_lt g op r) HOK.out.few
        have HEQ := Lib.hid (show (if hitF g op r = 0 then m else begGo g pl (behF g (hitF g op r)) (k + 1) (if hitF g op r &&& pl = 0 then m else ((k + 1 : Nat) : Int)) (spell (s.data.toList.drop p2))) = R by
          have := H.out.2.1
          rw [hsp, begGo] at this
          exact this)
        have HBH := Lib.hid (fun (W : World) (hW : GrAt W bp (.string ps) (.bool true) (.int .u64 (pf : Int)) (.int .u64 (pl : Int)) g) => behind_any bp _ _ _ _ g (hitF g op r) W hW HOK.out.few hh64 HOK.out.ok)
        have hb64 : behF g (hitF g op r) < 2 ^ 64 := pow_mono (behF_lt g HOK.out.ok _) HOK.out.few
        have hand := and_at hh64 HOK.out.last
        dsimp only at hand
        obtain ⟨hb, hhb⟩ : ∃ h, hitF g op r = h := ⟨_, rfl⟩
        rw [hhb] at HHT HEQ HBH hb64 hand
        obtain ⟨be, hbe⟩ : ∃ h, behF g hb = h := ⟨_, rfl⟩
        rw [hbe] at HEQ HBH hb64
        have HB64 := Lib.hid hb64
        have HB := Lib.hid hbw2
        clear hW1 hit hr hsp hp2 hwd H hh64 hhb hbe hb64 hbw2
        cases hb with
        | zero =>
          have HT := Lib.hid (show m = R by have := HEQ.out; rwa [if_pos rfl] at this)
          go_wp2_with fail
          refine HHT.out.mono ?_
          rintro e w2 ⟨rfl, b2⟩
          have HB2 := Lib.hid (HB.out.trans (b2.mono HB.out.size))
          clear b2
          go_wp2_with fail
          go_ret
          exact ⟨ret_int HT.out, HB2.out⟩
        | succ h1 =>
          obtain ⟨hb, hhb⟩ : ∃ h, h1 + 1 = h := ⟨_, rfl⟩
          rw [hhb] at HHT HEQ HBH hand
          have hb0 : 0 < hb := by omega
          have hne : ((hb : Int) == 0) = false := by simp; omega
          clear hhb
          obtain ⟨M, hM⟩ : ∃ M : Int, (if hb &&& pl = 0 then m else ((k + 1 : Nat) : Int)) = M := ⟨_, rfl⟩
          have HT := Lib.hid (show begGo g pl be (k + 1) M (spell (s.data.toList.drop p2)) = R by have := HEQ.out; rw [if_neg (by omega), hM] at this; exact this)
          have HM := Lib.hid hM
          clear hM
          cases hd : decide (hb &&& pl ≠ 0) with
          | true =>
            rw [hd] at hand
            have HMM := Lib.hid (show M = ((k + 1 : Nat) : Int) by rw [← HM.out, if_neg (by simpa using hd)])
            clear hd
            go_wp2_with fail
            refine HHT.out.mono ?_
            rintro e w2 ⟨rfl, b2⟩
            obtain ⟨q3, q4, q5, _⟩ := (HG1.out.below b2).tail
            have HG2 := Lib.hid (HG1.out.below b2)
            have hit3 := (b2.block w.heap.size (Array.getElem?_eq_some_iff.1 hit2).1).trans hit2
            have HB2 := Lib.hid (HB.out.trans (b2.mono HB.out.size))
            clear b2 hit2
            go_wp2_with fail
            refine (HBH.out _ HG2.out).mono ?_
            rintro e w3 ⟨rfl, rfl⟩
            go_wp2_with fail
            go_roundw
            case rel => exact ⟨p2, k + 1, be, M, by rw [HMM.out]; go_num, rfl, by go_num, hit3, ⟨HB2.out, HT.out, HB64.out⟩, by omega, hwl⟩
            case measure => rw [iterPos_of hit3, hpos0]; omega
          | false =>
            rw [hd] at hand
            have HMM := Lib.hid (show M = m by rw [← HM.out, if_pos (by simpa using hd)])
            clear hd
            go_wp2_with fail
            refine HHT.out.mono ?_
            rintro e w2 ⟨rfl, b2⟩
            obtain ⟨q3, q4, q5, _⟩ := (HG1.out.below b2).tail
            have HG2 := Lib.hid (HG1.out.below b2)
            have hit3 := (b2.block w.heap.size (Array.getElem?_eq_some_iff.1 hit2).1).trans hit2
            have HB2 := Lib.hid (HB.out.trans (b2.mono HB.out.size))
            clear b2 hit2
            go_wp2_with fail
            refine (HBH.out _ HG2.out).mono ?_
            rintro e w3 ⟨rfl, rfl⟩
            go_wp2_with fail
            go_roundw
            case rel => exact ⟨p2, k + 1, be, M, by rw [HMM.out], rfl, by go_num, hit3, ⟨HB2.out, HT.out, HB64.out⟩, by omega, hwl⟩
            case measure => rw [iterPos_of hit3, hpos0]; omega
      · have hnx : ∀ ty, (Instr.next (.pointer (some ⟨w.heap.size, 0, none⟩)) true ty).run Try.prog wr = _ := fun ty => Lib.run_next_end_at wr w.heap.size s pos ty hit hp
        have HT := Lib.hid (show m = R by
          have := H.out.2.1
          rw [spell_end hp, begGo] at this
          exact this)
        go_wp2_with fail
        go_ret
        exact ⟨ret_int HT.out, H.out.1⟩
  | false =>
    have K0 := KEY.out (-1) rfl
    clear KEY
    go_enter Try.func14, Try.ntmps14
    go_wp2_with fail
    go_loopw [5, 6, 7] (fun v5 v6 v7 wr => ∃ (pos k op : Nat) (m : Int), v5 = .int .i64 m ∧ v6 = .int .u64 (op : Int) ∧ v7 = .int .i64 k ∧ wr.heap[w.heap.size]? = some (.stringIter s pos) ∧ Hid (Below w.heap.size w wr ∧ begGo g pl op k m (spell (s.data.toList.drop pos)) = R ∧ op < 2 ^ 64) ∧ k ≤ pos ∧ pos ≤ s.size) (fun _ _ _ wr => s.size - wr.iterPos w.heap.size)
    case atStart => exact ⟨0, 0, pf, (-1), rfl, rfl, rfl, World.iter_heap w s 0, ⟨(Below.refl _ _).alloc (Nat.le_refl _) _, K0.out, HOK.out.first⟩, Nat.le_refl _, Nat.zero_le _⟩
    case round =>
      clear K0
      obtain ⟨pos, k, op, m, rfl, rfl, rfl, hit, H, hk, hps⟩ := hrel
      have hpos0 := iterPos_of hit
      by_cases hp : pos < s.size
      · have hnx : ∀ ty, (Instr.next (.pointer (some ⟨w.heap.size, 0, none⟩)) true ty).run Try.prog wr = _ := fun ty => Lib.run_next_any_at wr w.heap.size s pos ty hit hp
        have hwd := width1 s pos
        have hwl := width_le hp
        have hit2 := Lib.iterAt_heap wr w.heap.size s pos (pos + (Utf8.decode s pos).2) hit
        have hbw2 := Lib.below_iterAt H.out.1 (k := w.heap.size) (Nat.le_refl _) s (pos + (Utf8.decode s pos).2)
        have hsp := spell_at hp
        obtain ⟨r, hr⟩ : ∃ r : Int, ((Utf8.decode s pos).1 : Int) = r := ⟨_, rfl⟩
        rw [hr] at hsp
        obtain ⟨W1, hW1⟩ : ∃ W1, W1 = wr.iterAt w.heap.size s (pos + (Utf8.decode s pos).2) := ⟨_, rfl⟩
        rw [← hW1] at hnx hit2 hbw2
        rw [hr] at hnx
        obtain ⟨p2, hp2⟩ : ∃ p2, pos + (Utf8.decode s pos).2 = p2 := ⟨_, rfl⟩
        rw [hp2] at hit2 hwl hsp
        have hlt2 : pos < p2 := by omega
        have HG1 := Lib.hid (show GrAt W1 bp (.string ps) (.bool false) (.int .u64 (pf : Int)) (.int .u64 (pl : Int)) g from (PatAt.under HP.out hbw2))
        have HHT := Lib.hid (hit_any bp _ _ _ _ g op r W1 HG1.out HOK.out.few H.out.2.2)
        have hh64 : hitF g op r < 2 ^ 64 := pow_mono (hitF_lt g op r) HOK.out.few
        have HEQ := Lib.hid (show (if hitF g op r = 0 then m else begGo g pl (behF g (hitF g op r)) (k + 1) (if hitF g op r &&& pl = 0 then m else ((k + 1 : Nat) : Int)) (spell (s.data.toList.drop p2))) = R by
          have := H.out.2.1
          rw [hsp, begGo] at this
          exact this)
        have HBH := Lib.hid (fun (W : World) (hW : GrAt W bp (.string ps) (.bool false) (.int .u64 (pf : Int)) (.int .u64 (pl : Int)) g) => behind_any bp _ _ _ _ g (hitF g op r) W hW HOK.out.few hh64 HOK.out.ok)
        have hb64 : behF g (hitF g op r) < 2 ^ 64 := pow_mono (behF_lt g HOK.out.ok _) HOK.out.few
        have hand := and_at hh64 HOK.out.last
        dsimp only at hand
        obtain ⟨hb, hhb⟩ : ∃ h, hitF g op r = h := ⟨_, rfl⟩
        rw [hhb] at HHT HEQ HBH hb64 hand
        obtain ⟨be, hbe⟩ : ∃ h, behF g hb = h := ⟨_, rfl⟩
        rw [hbe] at HEQ HBH hb64
        have HB64 := Lib.hid hb64
        have HB := Lib.hid hbw2
        clear hW1 hit hr hsp hp2 hwd H hh64 hhb hbe hb64 hbw2
        cases hb with
        | zero =>
          have HT := Lib.hid (show m = R by have := HEQ.out; rwa [if_pos rfl] at this)
          go_wp2_with fail
          refine HHT.out.mono ?_
          rintro e w2 ⟨rfl, b2⟩
          have HB2 := Lib.hid (HB.out.trans (b2.mono HB.out.size))
          clear b2
          go_wp2_with fail
          go_ret
          exact ⟨ret_int HT.out, HB2.out⟩
        | succ h1 =>
          obtain ⟨hb, hhb⟩ : ∃ h, h1 + 1 = h := ⟨_, rfl⟩
          rw [hhb] at HHT HEQ HBH hand
          have hb0 : 0 < hb := by omega
          have hne : ((hb : Int) == 0) = false := by simp; omega
          clear hhb
          obtain ⟨M, hM⟩ : ∃ M : Int, (if hb &&& pl = 0 then m else ((k + 1 : Nat) : Int)) = M := ⟨_, rfl⟩
          have HT := Lib.hid (show begGo g pl be (k + 1) M (spell (s.data.toList.drop p2)) = R by have := HEQ.out; rw [if_neg (by omega), hM] at this; exact this)
          have HM := Lib.hid hM
          clear hM
          cases hd : decide (hb &&& pl ≠ 0) with
          | true =>
            rw [hd] at hand
            have HMM := Lib.hid (show M = ((k + 1 : Nat) : Int) by rw [← HM.out, if_neg (by simpa using hd)])
            clear hd
            go_wp2_with fail
            refine HHT.out.mono ?_
            rintro e w2 ⟨rfl, b2⟩
            obtain ⟨q3, q4, q5, _⟩ := (HG1.out.below b2).tail
            have HG2 := Lib.hid (HG1.out.below b2)
            have hit3 := (b2.block w.heap.size (Array.getElem?_eq_some_iff.1 hit2).1).trans hit2
            have HB2 := Lib.hid (HB.out.trans (b2.mono HB.out.size))
            clear b2 hit2
            go_wp2_with fail
            refine (HBH.out _ HG2.out).mono ?_
            rintro e w3 ⟨rfl, rfl⟩
            go_wp2_with fail
            go_roundw
            case rel => exact ⟨p2, k + 1, be, M, by rw [HMM.out]; go_num, rfl, by go_num, hit3, ⟨HB2.out, HT.out, HB64.out⟩, by omega, hwl⟩
            case measure => rw [iterPos_of hit3, hpos0]; omega
          | false =>
            rw [hd] at hand
            have HMM := Lib.hid (show M = m by rw [← HM.out, if_pos (by simpa using hd)])
            clear hd
            go_wp2_with fail
            refine HHT.out.mono ?_
            rintro e w2 ⟨rfl, b2⟩
            obtain ⟨q3, q4, q5, _⟩ := (HG1.out.below b2).tail
            have HG2 := Lib.hid (HG1.out.below b2)
            have hit3 := (b2.block w.heap.size (Array.getElem?_eq_some_iff.1 hit2).1).trans hit2
            have HB2 := Lib.hid (HB.out.trans (b2.mono HB.out.size))
            clear b2 hit2
            go_wp2_with fail
            refine (HBH.out _ HG2.out).mono ?_
            rintro e w3 ⟨rfl, rfl⟩
            go_wp2_with fail
            go_roundw
            case rel => exact ⟨p2, k + 1, be, M, by rw [HMM.out], rfl, by go_num, hit3, ⟨HB2.out, HT.out, HB64.out⟩, by omega, hwl⟩
            case measure => rw [iterPos_of hit3, hpos0]; omega
      · have hnx : ∀ ty, (Instr.next (.pointer (some ⟨w.heap.size, 0, none⟩)) true ty).run Try.prog wr = _ := fun ty => Lib.run_next_end_at wr w.heap.size s pos ty hit hp
        have HT := Lib.hid (show m = R by
          have := H.out.2.1
          rw [spell_end hp, begGo] at this
          exact this)
        go_wp2_with fail
        go_ret
        exact ⟨ret_int HT.out, H.out.1⟩
end Go.Proofs.Ytfpdhmecomgbdaa
