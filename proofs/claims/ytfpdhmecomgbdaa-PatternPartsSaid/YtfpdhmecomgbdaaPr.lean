/- Patterns: which atoms a rune fits; which ones may come then. -/
import Derived.Test.YtfpdhmecomgbdaaPq
namespace Go.Proofs.Ytfpdhmecomgbdaa
open Go.RowKit

theorem getD_of {α : Type} {l : List α} {k : Nat} {x d : α} (h : l[k]? = some x) : l.getD k d = x := by
  rw [List.getD_eq_getElem?_getD, h]; rfl
set_option maxHeartbeats 4000000 in
set_option maxRecDepth 100000 in
theorem hit_any (bp : Nat) (t a b c : Value) (g : Gr) (op : Nat) (r : Int) (w : World) (h : GrAt w bp t a b c g) (hn : g.atoms.length ≤ 64) (ho : op < 2 ^ 64) :
    Calls Try.prog 20 #[.pointer (some ⟨bp, 1, none⟩), .int .u64 (op : Int), .int .i32 r] w fun e w' => e = .returned (.int .u64 (hitF g op r : Int)) ∧ Below w.heap.size w w' := by
  have HGR := Lib.hid h
  obtain ⟨va, vt, vs, hp, hr⟩ := h
  obtain ⟨oa, ca, hva⟩ := own_shape hr.atoms
  obtain ⟨_, p1, _, _, _, _, _, _, hlt⟩ := hp.reads
  obtain ⟨n, hn2⟩ : ∃ n, g.atoms.length = n := ⟨_, rfl⟩
  rw [hva, hn2] at p1
  rw [hn2] at hn
  have HR := Lib.hid hr
  have HN := Lib.hid hn2
  have HVA := Lib.hid (show va = .slice oa n ca by rw [hva, hn2])
  have HO := Lib.hid ho
  obtain ⟨R, hR⟩ : ∃ R, hitF g op r = R := ⟨_, rfl⟩
  rw [hR]
  have HRR := Lib.hid hR
  clear hp hr hva hn2 ho hR
  go_enter Try.func20, Try.ntmps20
  go_wp2_with fail
  go_loopg [7, 15] n (fun k v7 v wr => ∃ (i l : Nat), k + i = n ∧ v = .int .i64 i ∧ v7 = .int .u64 (l : Int) ∧ Hid (Below w.heap.size w wr ∧ l = hitTo g.atoms op r i))
  case atStart => exact ⟨0, 0, rfl, rfl, rfl, Below.refl _ _, rfl⟩
  case round =>
    obtain ⟨i, l, hgk, rfl, rfl, H⟩ := hrel
    have HGK := Lib.hid hgk
    by_cases hin : i < n
    · have i1 : (i : Int) < n := by omega
      obtain ⟨x, hx⟩ : ∃ x, g.atoms[i]? = some x := ⟨_, List.getElem?_eq_getElem (by rw [HN.out]; exact hin)⟩
      have hrow := own_below HR.out.atoms H.out.1
      have hlen : vs.length = g.atoms.length := by have := HR.out.atoms.1; omega
      obtain ⟨v, hv⟩ : ∃ v, vs[i]? = some v := ⟨_, List.getElem?_eq_getElem (by rw [hlen, HN.out]; exact hin)⟩
      have htr := (HR.out.kids i v x hv hx).stays H.out.1
      obtain ⟨g1, c1, hv1, _⟩ := own_some hrow (by rw [HN.out]; omega)
      have hc0 := hrow.cells (g := g1) (by rw [hv1]; rfl) i v hv
      rw [Addr.add_lit, Nat.zero_add] at hc0
      rw [HVA.out] at hv1
      injection hv1 with e1 e2 e3
      clear e2
      subst e1
      have hbit := bit_at (A := op) (k := i) HO.out
      have hsh := shl_one (n := i) (by omega)
      have hll := hitTo_lt g.atoms op r i
      rw [← H.out.2] at hll
      have hor := or_at (A := l) (B := 2 ^ i) (pow_mono hll (by omega)) (Nat.pow_lt_pow_right (by omega) (by omega))
      obtain ⟨N, hN⟩ : ∃ N : Nat, 2 ^ i = N := ⟨_, rfl⟩
      obtain ⟨O, hO⟩ : ∃ O : Nat, l ||| N = O := ⟨_, rfl⟩
      rw [hN] at hsh hor
      rw [hO] at hor
      have HNX := Lib.hid (show hitTo g.atoms op r (i + 1) = if op.testBit i && fitsF x r then O else l by
        rw [hitTo, getD_of hx, ← H.out.2, hN, hO])
      obtain ⟨tv, uv, rfl⟩ := htr.iface
      have HF := Lib.hid (fits_any x _ r _ wr htr)
      have HB := Lib.hid H.out.1
      clear hgk hx hrow hv htr hlen H hll hN hO e3
      cases hb : op.testBit i with
      | false =>
        rw [hb] at hbit
        have HT := Lib.hid (show l = hitTo g.atoms op r (i + 1) by rw [HNX.out, hb]; rfl)
        clear hb
        go_wp2_with fail
        go_roundg (gk - 1)
        case measure => have := HGK.out; omega
        case rel => exact ⟨i + 1, l, by have := HGK.out; omega, by go_num, rfl, HB.out, HT.out⟩
      | true =>
        rw [hb] at hbit
        have HBT := Lib.hid hb
        clear hb
        cases hf : fitsF x r with
        | false =>
          have HT := Lib.hid (show l = hitTo g.atoms op r (i + 1) by rw [HNX.out, HBT.out, hf]; rfl)
          rw [hf] at HF
          clear hf
          go_wp2_with fail
          refine HF.out.mono ?_
          rintro e w1 ⟨rfl, b1⟩
          have HB1 := Lib.hid (HB.out.trans (b1.mono HB.out.size))
          clear b1
          go_wp2_with fail
          go_roundg (gk - 1)
          case measure => have := HGK.out; omega
          case rel => exact ⟨i + 1, l, by have := HGK.out; omega, by go_num, rfl, HB1.out, HT.out⟩
        | true =>
          have HT := Lib.hid (show O = hitTo g.atoms op r (i + 1) by rw [HNX.out, HBT.out, hf]; rfl)
          rw [hf] at HF
          clear hf
          go_wp2_with fail
          refine HF.out.mono ?_
          rintro e w1 ⟨rfl, b1⟩
          have HB1 := Lib.hid (HB.out.trans (b1.mono HB.out.size))
          clear b1
          go_wp2_with fail
          go_roundg (gk - 1)
          case measure => have := HGK.out; omega
          case rel => exact ⟨i + 1, O, by have := HGK.out; omega, by go_num, rfl, HB1.out, HT.out⟩
    · have i1 : (n : Int) ≤ i := by omega
      have HT := Lib.hid (show l = R by rw [← HRR.out, H.out.2]; unfold hitF; rw [HN.out, show i = n by omega])
      clear hgk
      go_wp2_with fail
      go_ret
      exact ⟨ret_int (by rw [HT.out]), H.out.1⟩

set_option maxHeartbeats 4000000 in
set_option maxRecDepth 100000 in
theorem behind_any (bp : Nat) (t a b c : Value) (g : Gr) (hh : Nat) (w : World) (h : GrAt w bp t a b c g) (hn : g.atoms.length ≤ 64) (ho : hh < 2 ^ 64) (hok : GrOk g) :
    Calls Try.prog 21 #[.pointer (some ⟨bp, 1, none⟩), .int .u64 (hh : Int)] w fun e w' => e = .returned (.int .u64 (behF g hh : Int)) ∧ w = w' := by
  obtain ⟨va, vt, vs, hp, hr⟩ := h
  obtain ⟨ot, ct, hvt⟩ := own_shape hr.links
  obtain ⟨_, _, p2, _, _, _, _, _, hlt⟩ := hp.reads
  obtain ⟨n, hn2⟩ : ∃ n, g.thn.length = n := ⟨_, rfl⟩
  rw [hvt, hn2] at p2
  rw [← hok.len, hn2] at hn
  have HR := Lib.hid hr
  have HN := Lib.hid hn2
  have HVT := Lib.hid (show vt = .slice ot n ct by rw [hvt, hn2])
  have HO := Lib.hid ho
  have HOK := Lib.hid hok
  obtain ⟨R, hR⟩ : ∃ R, behF g hh = R := ⟨_, rfl⟩
  rw [hR]
  have HRR := Lib.hid hR
  clear hp hr hvt hn2 ho hR hok
  go_enter Try.func21, Try.ntmps21
  go_wp2_with fail
  go_loopg [5, 13] n (fun k v5 v wr => ∃ (i l : Nat), k + i = n ∧ v = .int .i64 i ∧ v5 = .int .u64 (l : Int) ∧ Hid (w = wr) ∧ Hid (l = behTo g.thn hh i))
  case atStart => exact ⟨0, 0, rfl, rfl, rfl, rfl, rfl⟩
  case round =>
    obtain ⟨i, l, hgk, rfl, rfl, HW, H⟩ := hrel
    obtain rfl := HW.out
    have HGK := Lib.hid hgk
    by_cases hin : i < n
    · have i1 : (i : Int) < n := by omega
      obtain ⟨x, hx⟩ : ∃ x, g.thn[i]? = some x := ⟨_, List.getElem?_eq_getElem (by rw [HN.out]; exact hin)⟩
      have hrow := HR.out.links
      obtain ⟨g1, c1, hv1, _⟩ := own_some hrow (by rw [HN.out]; omega)
      have hc0 := hrow.cells (g := g1) (by rw [hv1]; rfl) i _ (u64s_at hx)
      rw [Addr.add_lit, Nat.zero_add] at hc0
      rw [HVT.out] at hv1
      injection hv1 with e1 e2 e3
      clear e2
      subst e1
      have hbit := bit_at (A := hh) (k := i) HO.out
      have h64 : 2 ^ g.atoms.length ≤ 2 ^ 64 := Nat.pow_le_pow_right (by omega) (by rw [← HOK.out.len, HN.out]; exact hn)
      have hll := behTo_lt g.thn hh g.atoms.length HOK.out.small i
      rw [← H.out] at hll
      have hor := or_at (A := l) (B := x) (by omega) (by have := HOK.out.small x (List.mem_of_getElem? hx); omega)
      obtain ⟨O, hO⟩ : ∃ O : Nat, l ||| x = O := ⟨_, rfl⟩
      rw [hO] at hor
      have HNX := Lib.hid (show behTo g.thn hh (i + 1) = if hh.testBit i then O else l by
        rw [behTo, getD_of hx, ← H.out, hO])
      clear hgk hx hrow H hll hO e3 h64
      cases hb : hh.testBit i with
      | false =>
        rw [hb] at hbit
        have HT := Lib.hid (show l = behTo g.thn hh (i + 1) by rw [HNX.out, hb]; rfl)
        clear hb
        go_wp2_with fail
        go_roundg (gk - 1)
        case measure => have := HGK.out; omega
        case rel => exact ⟨i + 1, l, by have := HGK.out; omega, by go_num, rfl, rfl, HT⟩
      | true =>
        rw [hb] at hbit
        have HT := Lib.hid (show O = behTo g.thn hh (i + 1) by rw [HNX.out, hb]; rfl)
        clear hb
        go_wp2_with fail
        go_roundg (gk - 1)
        case measure => have := HGK.out; omega
        case rel => exact ⟨i + 1, O, by have := HGK.out; omega, by go_num, rfl, rfl, HT⟩
    · have i1 : (n : Int) ≤ i := by omega
      have HT := Lib.hid (show l = R by rw [← HRR.out, H.out]; unfold behF; rw [HN.out, show i = n by omega])
      clear hgk
      go_wp2_with fail
      go_ret
      exact ⟨ret_int (by rw [HT.out]), rfl⟩
end Go.Proofs.Ytfpdhmecomgbdaa
