/- Walks: the reader's next frame; rows that fill a text; blocks. -/
import Derived.Test.YtldlfmeppcdbbaaRua
import Derived.Test.YtldlfmeppcdbbaaYd
import Derived.Test.YtldlfmeppcdbbaaGk
import Derived.Shelf.Strings.Prefix
namespace Go.Proofs.Ytldlfmeppcdbbaa.Run
open Go.RowKit Go.Lib Go.Proofs.Ytldlfmeppcdbbaa.Crc Go.Proofs.Ytldlfmeppcdbbaa.Row Go.Proofs.Ytldlfmeppcdbbaa.Vec

/-- The reader: what it has left. -/
def Rq (w : World) (bd : Nat) (l : List UInt8) : Prop := w.heap[bd]? = some (.cells #[.string ⟨l.toArray⟩] 45 (0, 0))
theorem Rq.lt {w : World} {bd : Nat} {l : List UInt8} (h : Rq w bd l) : bd < w.heap.size := (Array.getElem?_eq_some_iff.1 h).1
theorem Rq.reads {w : World} {bd : Nat} {l : List UInt8} (h : Rq w bd l) : w.cell? ⟨bd, 0, none⟩ = some (.string ⟨l.toArray⟩) ∧ w.frozen? ⟨bd, 0, none⟩ = false := by
  unfold Rq at h
  refine ⟨?_, ?_⟩ <;> simp [World.cell?, World.frozen?, h]
theorem Rq.below {w w' : World} {bd : Nat} {l : List UInt8} (h : Rq w bd l) (hb : Below w.heap.size w w') : Rq w' bd l := (hb.block bd h.lt).trans h
theorem Rq.put {w : World} {bd : Nat} {l : List UInt8} (h : Rq w bd l) (s : ByteArray) (m : List UInt8) (e : s = ⟨m.toArray⟩) : Rq (w.setCell ⟨bd, 0, none⟩ (.string s)) bd m := by
  subst e
  exact heap_setCell_same w bd 0 _ _ _ h

set_option maxHeartbeats 2000000 in
set_option maxRecDepth 100000 in
theorem text_yes (bd : Nat) (l : List UInt8) (w : World) (h : Rq w bd l) (hl : l.length ≤ 1000000) (h0 : (takeF l).1 = 0) :
    Calls Try.prog 40 #[.pointer (some ⟨bd, 0, none⟩)] w fun e w' => e = .returned (.tuple #[.string ⟨(takeF l).2.1.toArray⟩, .bool true]) ∧ Rq w' bd (takeF l).2.2 ∧ w.grownBy w' (some bd) := by
  have H := Lib.hid h
  obtain ⟨c0, f0⟩ := h.reads
  have hlt := h.lt
  obtain ⟨s, hs⟩ : ∃ s : ByteArray, ⟨l.toArray⟩ = s := ⟨_, rfl⟩
  have hsl : s.data.toList = l := by rw [← hs, Crc.str_data]
  obtain ⟨m, hm⟩ : ∃ m, s.size = m := ⟨_, rfl⟩
  have hml : l.length = m := by rw [← hm, Lib.size_eq, hsl]
  rw [hs] at c0
  have HSS := Lib.hid hs
  obtain ⟨q, hq⟩ : ∃ q : Nat, (if (m : Int) < 12010 then (m : Int) else 12010) = q := ⟨min m 12010, by split <;> omega⟩
  have hqm : q = min 12010 m := by split at hq <;> omega
  have mn : ∀ (W : World) (ts : Array TypeId) (t : TypeId), (Builtin.min_ ts t #[.int .i64 12010, .int .i64 (m : Int)]).run Try.prog W = .ok (.int .i64 (q : Int)) W := fun W ts t => by rw [run_min_int2, hq]
  obtain ⟨b, hb⟩ : ∃ b, s.extract 0 q = b := ⟨_, rfl⟩
  have hbd : b.data.toList = l.take 12010 := by
    rw [← hb, ext_data, hsl, List.drop_zero, Nat.sub_zero, hqm]
    by_cases h12 : m ≤ 12010
    · rw [Nat.min_eq_right h12, List.take_of_length_le (by omega), List.take_of_length_le (by omega)]
    · rw [Nat.min_eq_left (by omega)]
  have hbs : b.size = q := by rw [Lib.size_eq, hbd, List.length_take, hml, hqm]
  obtain ⟨r1, r2, r3, r4⟩ := reach_rest h0
  have HT := Lib.hid (fun W => Crc.take_any b W (by omega))
  obtain ⟨z, hz⟩ : ∃ z : ByteArray, ⟨(takeF l).2.1.toArray⟩ = z := ⟨_, rfl⟩
  obtain ⟨u, hu⟩ : ∃ u : ByteArray, ⟨(takeF (l.take 12010)).2.2.toArray⟩ = u := ⟨_, rfl⟩
  have hV : takeV b = .tuple #[.string z, .string u, .int .i64 0] := by
    unfold takeV; rw [hbd, r1, r2, hz, hu]; rfl
  rw [hV] at HT
  have HZ := Lib.hid hz
  obtain ⟨k, hk⟩ : ∃ k, u.size = k := ⟨_, rfl⟩
  have hkl : k = (takeF (l.take 12010)).2.2.length := by rw [← hk, ← hu, Crc.str_size]
  have hlq : (l.take 12010).length = q := by rw [← hbd, ← Lib.size_eq, hbs]
  rw [hlq, ← hkl] at r3 r4
  have HR := Lib.hid (show s.extract (q - k) m = ⟨((takeF l).2.2).toArray⟩ from Crc.bytes_same (by
    rw [← hm, ext_rest, hsl, Crc.str_data, r3]))
  obtain ⟨d, hd⟩ : ∃ d, q - k = d := ⟨_, rfl⟩
  rw [hd] at HR
  have j1 : (q : Int) ≤ m := by omega
  have j2 : (q : Int) - k = d := by omega
  have j3 : (d : Int) ≤ m := by omega
  have j4 : (m : Int) ≤ 1000000 := by omega
  have j5 : (0 : Int) ≤ q := by omega
  have j6 : (0 : Int) ≤ d := by omega
  have hdm : d ≤ m := by omega
  clear hsl hs hq hqm hbd hV hz hu hkl hlq r1 r2 r3 r4 h0 hd h hml hl
  go_enter Try.func40, Try.ntmps40
  go_wp2_with fail
  go_region
  go_wp2_with fail
  refine (HT.out _).mono ?_
  rintro e w1 ⟨rfl, b1⟩
  have H1 := Lib.hid (H.out.below ((Below.refl _ _).drew.trans b1))
  have HB1 := Lib.hid (show Below w.heap.size w w1 from (Below.refl _ _).drew.trans b1)
  obtain ⟨c1, f1⟩ := H1.out.reads
  rw [HSS.out] at c1
  clear c0 f0 b1
  go_wp2
  go_ret2
  rw [HZ.out]
  exact ⟨rfl, H1.out.put _ _ HR.out, grown_trans (grown_of_below HB1.out _) (grown_set _ _ _ _)⟩

set_option maxHeartbeats 2000000 in
set_option maxRecDepth 100000 in
theorem text_no (bd : Nat) (l : List UInt8) (w : World) (h : Rq w bd l) (hl : l.length ≤ 1000000) (h0 : (takeF l).1 ≠ 0) :
    Calls Try.prog 40 #[.pointer (some ⟨bd, 0, none⟩)] w fun e w' => e = .returned (.tuple #[.string ⟨#[]⟩, .bool false]) ∧ Rq w' bd l ∧ w.grownBy w' (some bd) := by
  have H := Lib.hid h
  obtain ⟨c0, f0⟩ := h.reads
  obtain ⟨s, hs⟩ : ∃ s : ByteArray, ⟨l.toArray⟩ = s := ⟨_, rfl⟩
  have hsl : s.data.toList = l := by rw [← hs, Crc.str_data]
  obtain ⟨m, hm⟩ : ∃ m, s.size = m := ⟨_, rfl⟩
  have hml : l.length = m := by rw [← hm, Lib.size_eq, hsl]
  rw [hs] at c0
  obtain ⟨q, hq⟩ : ∃ q : Nat, (if (m : Int) < 12010 then (m : Int) else 12010) = q := ⟨min m 12010, by split <;> omega⟩
  have hqm : q = min 12010 m := by split at hq <;> omega
  have mn : ∀ (W : World) (ts : Array TypeId) (t : TypeId), (Builtin.min_ ts t #[.int .i64 12010, .int .i64 (m : Int)]).run Try.prog W = .ok (.int .i64 (q : Int)) W := fun W ts t => by rw [run_min_int2, hq]
  obtain ⟨b, hb⟩ : ∃ b, s.extract 0 q = b := ⟨_, rfl⟩
  have hbd : b.data.toList = l.take 12010 := by
    rw [← hb, ext_data, hsl, List.drop_zero, Nat.sub_zero, hqm]
    by_cases h12 : m ≤ 12010
    · rw [Nat.min_eq_right h12, List.take_of_length_le (by omega), List.take_of_length_le (by omega)]
    · rw [Nat.min_eq_left (by omega)]
  have hbs : b.size = q := by rw [Lib.size_eq, hbd, List.length_take, hml, hqm]
  have HT := Lib.hid (fun W => Crc.take_any b W (by omega))
  have h1 := reach_not h0
  have h2 := take_none h1
  obtain ⟨n, hn⟩ : ∃ n, (takeF (l.take 12010)).1 = n := ⟨_, rfl⟩
  have hV : takeV b = .tuple #[.string ⟨#[]⟩, .string ⟨#[]⟩, .int .i64 n] := by
    unfold takeV; rw [hbd, hn, h2.1, h2.2]
  rw [hV] at HT
  rw [hn] at h1
  have j0 : ¬ (n : Int) = 0 := by omega
  have j1 : (q : Int) ≤ m := by omega
  have j4 : (m : Int) ≤ 1000000 := by omega
  have j5 : (0 : Int) ≤ q := by omega
  clear hsl hs hq hqm hbd hV hn h1 h2 h0 h hml hl
  go_enter Try.func40, Try.ntmps40
  go_wp2_with fail
  go_region
  go_wp2_with fail
  refine (HT.out _).mono ?_
  rintro e w1 ⟨rfl, b1⟩
  have HB1 := Lib.hid (show Below w.heap.size w w1 from (Below.refl _ _).drew.trans b1)
  clear c0 f0 b1
  go_wp2
  go_ret2
  exact ⟨rfl, H.out.below HB1.out, grown_of_below HB1.out _⟩

/-! ## Rows that fill a text -/
theorem labS_own {w : World} {B n c : Nat} {o : Option Addr} {xs : List Lab} (h : w.ownsRow B 79 2 (.slice o n c) n (flatL xs)) (hn : xs.length = n) : LabS w 0 o xs := by
  subst hn
  obtain ⟨o2, c2, e2, hs, _⟩ := own_sees h
  cases e2
  refine ⟨hs, fun _ b off e => .inr ?_⟩
  rcases h.2 with ⟨h1, _⟩ | ⟨g, cap, cur, h1, hg, hh, _⟩
  · injection h1 with h3 _ _
    rw [h3] at e; cases e
  · cases h1; cases e; exact ⟨_, _, hh⟩
theorem cells_k2 (w : World) (X : Obj) (L : List Value) (t : TypeId) : ∀ j u, L[j]? = some u → ((w.alloc X).alloc (.cells L.toArray t)).cell? ((⟨w.heap.size + 1, 0, none⟩ : Addr).add j) = some u := by
  have h := cells_k (w.alloc X) L t
  rwa [show (w.alloc X).heap.size = w.heap.size + 1 from Array.size_push _] at h
theorem getR_len {b : List UInt8} {p : List Lab × Int × List UInt8} (h : getR b = some p) : p.2.2.length + 7 ≤ b.length ∧ p.1.length ≤ 8 := by
  obtain ⟨xs, v, r⟩ := p
  obtain ⟨e, h1, h2⟩ := get_inv h
  have h3 := right_len h1
  refine ⟨?_, h3⟩
  have := congrArg List.length e
  unfold putR at this
  simp only [List.length_append, numB_len] at this
  simp only []
  omega

/-- What is told of the rows of a text. -/
def RowsR (B : Nat) (R : Option (List Rw)) (e : Ending) (w' : World) : Prop :=
  match R with
  | some xs => ∃ v us, e = .returned (.tuple #[v, .bool true]) ∧ OwnR w' B v us xs
  | none => e = .returned (.tuple #[.slice none 0 0, .bool false])
set_option maxHeartbeats 4000000 in
set_option maxRecDepth 100000 in
theorem rowsOf_any (t : ByteArray) (w : World) (ht : t.size ≤ 100000) :
    Calls Try.prog 63 #[.string t] w fun e w' => RowsR w.heap.size (rowsG 8 t.data.toList) e w' ∧ Below w.heap.size w w' := by
  obtain ⟨i0, hi, hz0, hz1, hz2⟩ := info_parts infoRow
  obtain ⟨R, hR⟩ : ∃ R, rowsG 8 t.data.toList = R := ⟨_, rfl⟩
  rw [hR]
  have HRR := Lib.hid hR
  clear hR
  go_enter Try.func63, Try.ntmps63
  go_wp2
  go_loopw [0, 4, 5, 6, 7] (fun v0 v4 _ _ _ wr => ∃ (k : Nat) (done : List Rw) (us : List (List Value)) (b : ByteArray), v0 = .string b ∧ b.size ≤ 100000 ∧ done.length = k ∧ k ≤ 8 ∧ Hid (R = (rowsG (8 - k) b.data.toList).map fun l => done ++ l) ∧ Hid (OwnR wr w.heap.size v4 us done) ∧ Hid (Below w.heap.size w wr)) (fun v0 _ _ _ _ _ => match v0 with | .string b => b.size | _ => 0)
  case atStart => exact ⟨0, [], [], t, rfl, ht, rfl, Nat.zero_le _, (show _ = _ by rw [← HRR.out]; cases rowsG (8 - 0) t.data.toList <;> rfl), OwnG.nil _ _, Below.refl _ _⟩
  case round =>
    obtain ⟨k, done, us, b, rfl, hb, hd, hk, HR, HO, HB⟩ := hrel
    obtain ⟨o, c, rfl, hS, _⟩ := HO.out.sees frow
    rw [hd] at HO ⊢
    by_cases hbe : b.data.toList = []
    · have hb0 : b = ⟨#[]⟩ := Crc.bytes_same hbe
      subst hb0
      have HX := Lib.hid (show R = some done by
        have h0 := HR.out
        have h1 : rowsG (8 - k) (⟨#[]⟩ : ByteArray).data.toList = some [] := (rowsG_iff _ _ _).2 ⟨rfl, by simp, Nat.zero_le _⟩
        rw [h0, h1, Option.map_some, List.append_nil])
      clear HR hS hbe
      go_wp2
      go_ret2
      rw [HX.out]
      exact ⟨⟨_, us, rfl, HO.out⟩, HB.out⟩
    · have hne : b.toList.isEmpty = false := by
        cases h : b.toList.isEmpty with
        | false => rfl
        | true =>
          have h2 := List.isEmpty_iff.1 h
          rw [ByteArray.toList_eq] at h2
          exact absurd h2 hbe
      have HG := Lib.hid (fun (W : World) => get_any b W (by omega))
      have hzr := HB.out.size
      have HBE := Lib.hid hbe
      clear hbe hS
      cases hg : getR b.data.toList with
      | none =>
        have HX := Lib.hid (show R = none by
          rw [HR.out]
          cases h8 : 8 - k with
          | zero => rw [rowsG, if_neg HBE.out]; rfl
          | succ j => rw [rowsG, if_neg HBE.out, hg]; rfl)
        have HG2 := Lib.hid (fun (W : World) => (show Calls Try.prog 71 #[.string b] W fun e w' => e = .returned (.tuple #[.agg #[.slice none 0 0, .int .i64 0], .string ⟨#[]⟩, .int .i64 2]) ∧ Below W.heap.size W w' from (HG.out W).mono fun e w' ⟨h1, h2⟩ => ⟨by unfold GotR at h1; rw [hg] at h1; exact h1, h2⟩))
        clear HG hg HR
        go_wp2_with fail
        refine (HG2.out _).mono ?_
        rintro e w1 ⟨rfl, b1⟩
        have HB1 := Lib.hid (HB.out.trans (b1.mono hzr))
        have hz1 := HB1.out.size
        have HB2 := Lib.hid (HB1.out.alloc hz1 (Obj.cells #[Value.slice none 0 0, Value.int .i64 0] 40))
        clear b1 HG2
        go_wp2
        go_ret2
        rw [HX.out]
        exact ⟨rfl, HB2.out⟩
      | some p =>
        obtain ⟨hpl, hp8⟩ := getR_len hg
        obtain ⟨xs, v, r⟩ := p
        simp only [] at hpl hp8
        obtain ⟨nL, hnL⟩ : ∃ nL, xs.length = nL := ⟨_, rfl⟩
        obtain ⟨u, hu⟩ : ∃ u : ByteArray, ⟨r.toArray⟩ = u := ⟨_, rfl⟩
        have hud : u.data.toList = r := by rw [← hu, Crc.str_data]
        have hus : u.size + 7 ≤ b.size := by rw [Lib.size_eq, hud, Lib.size_eq]; exact hpl
        have HG2 := Lib.hid (fun (W : World) => (show Calls Try.prog 71 #[.string b] W fun e w' => (∃ o c, e = .returned (.tuple #[.agg #[.slice o nL c, .int .i64 v], .string u, .int .i64 0]) ∧ w'.ownsRow W.heap.size 79 2 (.slice o nL c) nL (flatL xs)) ∧ Below W.heap.size W w' from (HG.out W).mono fun e w' ⟨h1, h2⟩ => ⟨by unfold GotR at h1; rw [hg] at h1; simp only [hnL, hu] at h1; exact h1, h2⟩))
        by_cases h8 : k = 8
        · subst h8
          have HX := Lib.hid (show R = none by
            rw [HR.out, Nat.sub_self, rowsG, if_neg HBE.out]; rfl)
          clear HG hg HR
          go_wp2_with fail
          refine (HG2.out _).mono ?_
          rintro e w1 ⟨⟨oL, cL, rfl, hOL⟩, b1⟩
          have HB1 := Lib.hid (HB.out.trans (b1.mono hzr))
          have hz1 := HB1.out.size
          have HB2 := Lib.hid (HB1.out.alloc hz1 (Obj.cells #[Value.slice oL nL cL, Value.int .i64 v] 40))
          clear b1 HG2 hOL
          go_wp2
          go_ret2
          rw [HX.out]
          exact ⟨rfl, HB2.out⟩
        · have hk8 : k < 8 := by omega
          have j8 : ¬ ((k : Int) = 8) := by omega
          have HR2 := Lib.hid (show R = (rowsG (8 - (k + 1)) u.data.toList).map fun l => (done ++ [(xs, v)]) ++ l by
            rw [HR.out, show 8 - k = (8 - (k + 1)) + 1 by omega, rowsG, if_neg HBE.out, hg, hud]
            simp only []
            cases rowsG (8 - (k + 1)) r with
            | none => rfl
            | some q => simp)
          have hn8 : nL ≤ 8 := by omega
          have HNL := Lib.hid hnL
          have HD := Lib.hid hd
          obtain ⟨nU, hnU⟩ : ∃ nU, us.length = nU := ⟨_, rfl⟩
          have hnk : nU = k := by rw [← hnU, HO.out.len, HD.out]
          clear HG hg HR h8 hnL hud hu hpl
          go_wp2_with fail
          refine (HG2.out _).mono ?_
          rintro e w5 ⟨⟨oL, cL, rfl, hOL⟩, b5⟩
          have hB5 := HB.out.trans (b5.mono hzr)
          have hz5 := hB5.size
          have hO5 := HO.out.below frow b5
          have hX1 := (Below.refl w5.heap.size w5).alloc (Nat.le_refl _) (Obj.cells #[Value.slice oL nL cL, Value.int .i64 v] 40)
          have hX2 := hX1.alloc hX1.size (Obj.cells #[Value.slice oL nL cL, Value.int .i64 v] 40)
          have HB7 := Lib.hid (hB5.trans (hX2.mono hz5))
          have HO7 := Lib.hid (hO5.below frow hX2)
          have HLb := Lib.hid (own_grown hOL hX2)
          have hlim : us.length ≤ 60 := by rw [hnU]; omega
          clear hO5 hOL b5 hB5 hX1 hX2 HG2
          have HO8 := Lib.hid (show ((w5.alloc (Obj.cells #[Value.slice oL nL cL, Value.int .i64 v] 40)).alloc (Obj.cells #[Value.slice oL nL cL, Value.int .i64 v] 40)).ownsRow w.heap.size 40 2 (.slice o k c) us.length us.flatten from HO7.out.own)
          go_wp2_with (at_builtin; go_must (refine wpList_append_own _ rfl _ _ 23 rfl w.heap.size 40 i0 (.agg #[.slice none 0 0, .int .i64 0]) 2 32 Try.underlying23 hi hz0 hz1 hz2 rfl (by decide) _ _ _ rfl HO8.out ⟨w5.heap.size + 1, 0, none⟩ 1 1 [.slice oL nL cL, .int .i64 v] rfl rfl (cells_k2 w5 _ _ _) (by intro v hv; simp at hv; rcases hv with rfl | rfl <;> rfl) (by unfold maxLen; omega) (by omega) (by simp; omega) ?_); intro v' w8 hown' hgrow8 hnil8)
          have HB8 := Lib.hid (Below.grown HB7.out hgrow8 (by
            rw [show ((w5.alloc (Obj.cells #[Value.slice oL nL cL, Value.int .i64 v] 40)).alloc (Obj.cells #[Value.slice oL nL cL, Value.int .i64 v] 40)).heap.size = w5.heap.size + 1 + 1 from (Array.size_push _).trans (by rw [show (w5.alloc (Obj.cells #[Value.slice oL nL cL, Value.int .i64 v] 40)).heap.size = w5.heap.size + 1 from Array.size_push _])]
            omega) (fun j hj => (HO7.out.own.lt j hj).1))
          have HO9 := Lib.hid (show OwnR w8 w.heap.size v' (us ++ [[.slice oL nL cL, .int .i64 v]]) (done ++ [(xs, v)]) from
            OwnG.snoc frow (Nat.zero_le _) HO7.out ⟨oL, cL, by rw [HNL.out], labS_own HLb.out HNL.out, by rw [HNL.out]; unfold maxLen; omega⟩ hown' hgrow8)
          clear hown' hgrow8 hnil8 HO7 HB7 HLb HO8
          go_wp2
          go_roundw
          case rel => exact ⟨k + 1, done ++ [(xs, v)], _, u, rfl, by omega, by rw [List.length_append, HD.out]; rfl, by omega, HR2, HO9, HB8⟩
          case measure => simp; omega
end Go.Proofs.Ytldlfmeppcdbbaa.Run
