import Derived.Test.YtmidpekkomhogaaMg07
import Derived.Test.YtmidpekkomhogaaMg01
import Derived.Test.YtmidpekkomhogaaShelfA
section
/- Patterns, plain: a text is held against a graph. No program in it. -/

namespace Go.Proofs.Ytmidpekkomhogaa.Pat

def hasF (xs : List (Int × Int)) (r : Int) : Bool := xs.any fun x => decide (x.1 ≤ r) && decide (r ≤ x.2)
def fitsF : Pt → Int → Bool
  | .only o, r => o == r
  | .cls n xs, r => hasF xs r != n
  | .dot, _ => true
  | _, _ => false
def hitTo (l : List Pt) (op : Nat) (r : Int) : Nat → Nat
  | 0 => 0
  | k + 1 => if op.testBit k && fitsF (l.getD k (.choice [])) r then hitTo l op r k ||| 2 ^ k else hitTo l op r k
def hitF (g : Gr) (op : Nat) (r : Int) : Nat := hitTo g.atoms op r g.atoms.length
def behTo (t : List Nat) (h : Nat) : Nat → Nat
  | 0 => 0
  | k + 1 => if h.testBit k then behTo t h k ||| t.getD k 0 else behTo t h k
def behF (g : Gr) (h : Nat) : Nat := behTo g.thn h g.thn.length
def begGo (g : Gr) (last : Nat) : Nat → Nat → Int → List Int → Int
  | _, _, most, [] => most
  | op, n, most, r :: rs => if hitF g op r = 0 then most else begGo g last (behF g (hitF g op r)) (n + 1) (if hitF g op r &&& last = 0 then most else ((n + 1 : Nat) : Int)) rs
def begF (p : Eg × Gr) (rs : List Int) : Int := begGo p.2 p.1.last p.1.first 0 (if p.1.none then 0 else -1) rs

theorem hitTo_lt (l : List Pt) (op : Nat) (r : Int) : ∀ k, hitTo l op r k < 2 ^ k
  | 0 => by simp [hitTo]
  | k + 1 => by
    have h := pow_mono (hitTo_lt l op r k) (Nat.le_succ k)
    have hp : 2 ^ k < 2 ^ (k + 1) := Nat.pow_lt_pow_right (by omega) (by omega)
    rw [hitTo]
    split
    · exact pow_or h hp
    · exact h
theorem behTo_lt (t : List Nat) (h n : Nat) (hs : ∀ x ∈ t, x < 2 ^ n) : ∀ k, behTo t h k < 2 ^ n
  | 0 => by rw [behTo]; exact Nat.two_pow_pos _
  | k + 1 => by
    have ih := behTo_lt t h n hs k
    rw [behTo]
    split
    · refine pow_or ih ?_
      rw [List.getD_eq_getElem?_getD]
      cases hk : t[k]? with
      | none => simp; exact Nat.two_pow_pos _
      | some x => exact hs x (List.mem_of_getElem? hk)
    · exact ih
theorem hitF_lt (g : Gr) (op : Nat) (r : Int) : hitF g op r < 2 ^ g.atoms.length := hitTo_lt _ _ _ _
theorem behF_lt (g : Gr) (h : GrOk g) (x : Nat) : behF g x < 2 ^ g.atoms.length := behTo_lt _ _ _ h.small _
end Go.Proofs.Ytmidpekkomhogaa.Pat
end

section
/- Patterns: whether a rune is what an atom says. -/

namespace Go.Proofs.Ytmidpekkomhogaa.Pat
open Go.RowKit

theorem SeesI.below {w w' : World} {P : Nat → Prop} {o : Option Addr} {xs : List (Int × Int)} (h : SeesI w P o xs) (hb : Below w.heap.size w w') : SeesI w' P o xs :=
  h.keep fun b hp hl => ⟨hb.block b hl, hp⟩
theorem hasF_to (xs : List (Int × Int)) (r : Int) (k : Nat) (h : k < xs.length) (h0 : hasF (xs.take k) r = false) : hasF xs r = ((decide (xs[k].1 ≤ r) && decide (r ≤ xs[k].2)) || hasF (xs.drop (k + 1)) r) := by
  have e : xs = xs.take k ++ xs[k] :: xs.drop (k + 1) := by rw [← List.drop_eq_getElem_cons h]; exact (List.take_append_drop k xs).symm
  have h1 : hasF xs r = (hasF (xs.take k) r || hasF (xs[k] :: xs.drop (k + 1)) r) := by
    conv => lhs; rw [e]
    exact List.any_append
  rw [h1, h0]
  rfl
theorem hasF_take (xs : List (Int × Int)) (r : Int) (k : Nat) (x : Int × Int) (h : xs[k]? = some x) (h0 : hasF (xs.take k) r = false) (h1 : (decide (x.1 ≤ r) && decide (r ≤ x.2)) = false) : hasF (xs.take (k + 1)) r = false := by
  rw [List.take_add_one, h]
  simp only [hasF, List.any_append, Option.toList_some, List.any_cons, List.any_nil, Bool.or_false] at h0 ⊢
  rw [h0, h1]; rfl

set_option maxHeartbeats 4000000 in
set_option maxRecDepth 100000 in
theorem has_any (neg : Bool) (o : Option Addr) (n cap : Nat) (xs : List (Int × Int)) (r : Int) (P : Nat → Prop) (w : World) (hn : xs.length = n) (hm : n ≤ 2000000) (hS : SeesI w P o xs) :
    Calls Try.prog 84 #[.agg #[.bool neg, .slice o n cap], .int .i32 r] w fun e w' => e = .returned (.bool (hasF xs r)) ∧ Below w.heap.size w w' := by
  have HN := Lib.hid hn
  have HS := Lib.hid hS
  obtain ⟨R, hR⟩ : ∃ R, hasF xs r = R := ⟨_, rfl⟩
  rw [hR]
  have HR := Lib.hid hR
  clear hn hS hR
  go_enter Try.func84, Try.ntmps84
  go_wp2_with fail
  go_loopg [10] n (fun k v wr => ∃ i : Nat, k + i = n ∧ v = .int .i64 i ∧ Hid (Below w.heap.size w wr ∧ hasF (xs.take i) r = false))
  case atStart => exact ⟨0, rfl, rfl, (Below.refl _ _).alloc (Nat.le_refl _) _, by simp [hasF]⟩
  case round =>
    obtain ⟨i, hgk, rfl, H⟩ := hrel
    have HGK := Lib.hid hgk
    by_cases hin : i < n
    · have i1 : (i : Int) < n := by omega
      obtain ⟨x, hx⟩ : ∃ x, xs[i]? = some x := ⟨_, List.getElem?_eq_getElem (by rw [HN.out]; exact hin)⟩
      rcases HS.out.keep (w' := wr) (Q := P) (fun b hp hl => ⟨H.out.1.block b hl, hp⟩) with h0 | ⟨b, off, rfl, hp, hl, hs⟩
      · rw [h0] at hx; simp at hx
      obtain ⟨c0, c1⟩ := hs i x hx
      have hB := H.out.1.alloc H.out.1.size (Obj.cells #[.int .i32 x.1, .int .i32 x.2] 159)
      have HB := Lib.hid hB
      have HX := Lib.hid hx
      obtain ⟨x1, x2⟩ := x
      dsimp only at c0 c1
      clear hs hx hB hgk
      by_cases h1 : x1 ≤ r
      · have d1 : decide (x1 ≤ r) = true := by simpa using h1
        by_cases h2 : r ≤ x2
        · have d2 : decide (r ≤ x2) = true := by simpa using h2
          have HT := Lib.hid (show R = true by
            rw [← HR.out, hasF_to xs r i (by rw [HN.out]; exact hin) H.out.2, (List.getElem?_eq_some_iff.1 HX.out).2]
            simp [h1, h2])
          go_wp2_with fail
          go_ret
          exact ⟨ret_bool HT.out.symm, HB.out⟩
        · have d2 : decide (r ≤ x2) = false := by simpa using h2
          have HT := Lib.hid (hasF_take xs r i _ HX.out H.out.2 (by simp [h2]))
          go_wp2_with fail
          go_roundg (gk - 1)
          case measure => have := HGK.out; omega
          case rel => exact ⟨i + 1, by have := HGK.out; omega, by go_num, HB.out, HT.out⟩
      · have d1 : decide (x1 ≤ r) = false := by simpa using h1
        have HT := Lib.hid (hasF_take xs r i _ HX.out H.out.2 (by simp [h1]))
        go_wp2_with fail
        go_roundg (gk - 1)
        case measure => have := HGK.out; omega
        case rel => exact ⟨i + 1, by have := HGK.out; omega, by go_num, HB.out, HT.out⟩
    · have i1 : (n : Int) ≤ i := by omega
      have HT := Lib.hid (show R = false by rw [← HR.out]; have := H.out.2; rwa [List.take_of_length_le (by rw [HN.out]; omega)] at this)
      clear hgk
      go_wp2_with fail
      go_ret
      exact ⟨ret_bool HT.out.symm, H.out.1⟩
end Go.Proofs.Ytmidpekkomhogaa.Pat
end

section
/- Patterns: whether a rune fits; which atoms it fits; which ones may come then. -/

namespace Go.Proofs.Ytmidpekkomhogaa.Pat
open Go.RowKit

/-- What the three questions of 'fits' answer at a kind. -/
structure AsksV (ty : TypeId) : Prop where
  a80 : ∀ (v : Value) (W : World), (Instr.typeAssert (.iface ty v) 102 148 true).run Try.prog W = .ok (.tuple #[.int .i32 0, .bool false]) W
  a84 : ∀ (v : Value) (W : World), (Instr.typeAssert (.iface ty v) 102 152 true).run Try.prog W = .ok (.tuple #[.agg #[.bool false, .slice none 0 0], .bool false]) W
theorem asks62 : AsksV 128 := ⟨fun _ _ => by kernel_rfl, fun _ _ => by kernel_rfl⟩
theorem asks65 : AsksV 131 := ⟨fun _ _ => by kernel_rfl, fun _ _ => by kernel_rfl⟩
theorem asks69 : AsksV 135 := ⟨fun _ _ => by kernel_rfl, fun _ _ => by kernel_rfl⟩
theorem asks87 : AsksV 155 := ⟨fun _ _ => by kernel_rfl, fun _ _ => by kernel_rfl⟩
theorem is80 (v : Value) (W : World) : (Instr.typeAssert (.iface 148 v) 102 148 true).run Try.prog W = .ok (.tuple #[v, .bool true]) W := by kernel_rfl
theorem no80_84 (v : Value) (W : World) : (Instr.typeAssert (.iface 152 v) 102 148 true).run Try.prog W = .ok (.tuple #[.int .i32 0, .bool false]) W := by kernel_rfl
theorem is84 (v : Value) (W : World) : (Instr.typeAssert (.iface 152 v) 102 152 true).run Try.prog W = .ok (.tuple #[v, .bool true]) W := by kernel_rfl
theorem is87 (v : Value) (W : World) : (Instr.typeAssert (.iface 155 v) 102 155 true).run Try.prog W = .ok (.tuple #[v, .bool true]) W := by kernel_rfl
theorem no87_62 (v : Value) (W : World) : (Instr.typeAssert (.iface 128 v) 102 155 true).run Try.prog W = .ok (.tuple #[.agg #[], .bool false]) W := by kernel_rfl
theorem no87_65 (v : Value) (W : World) : (Instr.typeAssert (.iface 131 v) 102 155 true).run Try.prog W = .ok (.tuple #[.agg #[], .bool false]) W := by kernel_rfl
theorem no87_69 (v : Value) (W : World) : (Instr.typeAssert (.iface 135 v) 102 155 true).run Try.prog W = .ok (.tuple #[.agg #[], .bool false]) W := by kernel_rfl

set_option maxHeartbeats 4000000 in
set_option maxRecDepth 100000 in
theorem fits_far (ty : TypeId) (u : Value) (ok : Bool) (r : Int) (w : World) (ha : AsksV ty) (h87 : ∀ (W : World), ∃ z, (Instr.typeAssert (.iface ty u) 102 155 true).run Try.prog W = .ok (.tuple #[.agg #[], .bool ok]) W ∧ z = u) :
    Calls Try.prog 78 #[.iface ty u, .int .i32 r] w fun e w' => e = .returned (.bool ok) ∧ Below w.heap.size w w' := by
  have i1 := ha.a80
  have i2 := ha.a84
  have i3 : ∀ (W : World), (Instr.typeAssert (.iface ty u) 102 155 true).run Try.prog W = .ok (.tuple #[.agg #[], .bool ok]) W := fun W => (h87 W).choose_spec.1
  clear ha h87
  go_enter Try.func78, Try.ntmps78
  go_wp2_with fail
  go_ret
  exact ⟨rfl, ((Below.refl _ _).alloc (Nat.le_refl _) _).alloc (by simp) _⟩
set_option maxHeartbeats 4000000 in
set_option maxRecDepth 100000 in
theorem fits_only (o r : Int) (w : World) :
    Calls Try.prog 78 #[.iface 148 (.int .i32 o), .int .i32 r] w fun e w' => e = .returned (.bool (o == r)) ∧ Below w.heap.size w w' := by
  have i1 := is80
  go_enter Try.func78, Try.ntmps78
  go_wp2_with fail
  go_ret
  exact ⟨rfl, Below.refl _ _⟩
set_option maxHeartbeats 4000000 in
set_option maxRecDepth 100000 in
theorem fits_cls (neg : Bool) (o : Option Addr) (n cap : Nat) (xs : List (Int × Int)) (r : Int) (P : Nat → Prop) (w : World) (hn : xs.length = n) (hm : n ≤ 2000000) (hS : SeesI w P o xs) :
    Calls Try.prog 78 #[.iface 152 (.agg #[.bool neg, .slice o n cap]), .int .i32 r] w fun e w' => e = .returned (.bool (hasF xs r != neg)) ∧ Below w.heap.size w w' := by
  obtain ⟨W, hW⟩ : ∃ W, w.alloc (Obj.cells #[.bool neg, .slice o n cap] 152) = W := ⟨_, rfl⟩
  have hb : Below w.heap.size w W := by rw [← hW]; exact (Below.refl _ _).alloc (Nat.le_refl _) _
  have hbx : Box W w.heap.size (.bool neg) (.slice o n cap) 152 := by unfold Box; rw [← hW]; exact Array.getElem?_push_size
  obtain ⟨r0, r1, _, _⟩ := hbx.reads
  have HC := Lib.hid (show Calls Try.prog 84 #[.agg #[.bool neg, .slice o n cap], .int .i32 r] W.drew fun e w' => e = .returned (.bool (hasF xs r)) ∧ w'.cell? ⟨w.heap.size, 0, none⟩ = some (.bool neg) ∧ w'.cell? ⟨w.heap.size, 1, none⟩ = some (.slice o n cap) ∧ Hid (Below w.heap.size w w') by
    have hd : Below W.heap.size W W.drew := (Below.refl _ _).drew
    refine (has_any neg o n cap xs r P W.drew hn hm ((hS.below hb).below hd)).mono fun e w' q => ?_
    have hb2 : Below W.heap.size W w' := hd.trans q.2
    have hbx2 : Box w' w.heap.size (.bool neg) (.slice o n cap) 152 := (hb2.block _ (Array.getElem?_eq_some_iff.1 hbx).1).trans hbx
    exact ⟨q.1, hbx2.reads.1, hbx2.reads.2.1, hb.trans (hb2.mono hb.size)⟩)
  have HW := Lib.hid hW
  obtain ⟨R, hR⟩ : ∃ R, hasF xs r = R := ⟨_, rfl⟩
  rw [hR] at HC ⊢
  have i1 := no80_84
  have i2 := is84
  clear hn hS hb hbx hW hR
  go_enter Try.func78, Try.ntmps78
  go_wp2_with fail
  rw [HW.out]
  go_region_held3 (fun w' => w'.cell? ⟨w.heap.size, 0, none⟩ = some (.bool neg) ∧ w'.cell? ⟨w.heap.size, 1, none⟩ = some (.slice o n cap)) (first | exact ⟨s1, s2⟩ | exact ⟨r0, r1⟩) (first | (go_at_call 84; refine HC.out.mono ?_; rintro e wq ⟨rfl, s1, s2, s3⟩))
  go_wp2_with fail
  go_ret
  exact ⟨rfl, s3.out⟩
/-- Whether a rune is what a part says. -/
theorem fits_any (x : Pt) (v : Value) (r : Int) (P : Nat → Prop) (w : World) (ht : Tree w P v x) :
    Calls Try.prog 78 #[v, .int .i32 r] w fun e w' => e = .returned (.bool (fitsF x r)) ∧ Below w.heap.size w w' := by
  cases ht with
  | only o => exact fits_only o r w
  | dot => exact fits_far 155 _ true r w asks87 (fun W => ⟨_, is87 _ W, rfl⟩)
  | cls neg o n cap xs hn hm h => exact fits_cls neg o n cap xs r P w hn hm h
  | times v2 y a b _ => exact fits_far 135 _ false r w asks69 (fun W => ⟨_, no87_69 _ W, rfl⟩)
  | choice o n cap vs l _ _ _ _ _ => exact fits_far 128 _ false r w asks62 (fun W => ⟨_, no87_62 _ W, rfl⟩)
  | chain o n cap vs l _ _ _ _ _ => exact fits_far 131 _ false r w asks65 (fun W => ⟨_, no87_65 _ W, rfl⟩)
end Go.Proofs.Ytmidpekkomhogaa.Pat
end

section
/- Patterns: which atoms a rune fits; which ones may come then. -/

namespace Go.Proofs.Ytmidpekkomhogaa.Pat
open Go.RowKit

theorem getD_of {α : Type} {l : List α} {k : Nat} {x d : α} (h : l[k]? = some x) : l.getD k d = x := by
  rw [List.getD_eq_getElem?_getD, h]; rfl
set_option maxHeartbeats 4000000 in
set_option maxRecDepth 100000 in
theorem hit_any (bp : Nat) (t a b c : Value) (g : Gr) (op : Nat) (r : Int) (w : World) (h : GrAt w bp t a b c g) (hn : g.atoms.length ≤ 64) (ho : op < 2 ^ 64) :
    Calls Try.prog 71 #[.pointer (some ⟨bp, 1, none⟩), .int .u64 (op : Int), .int .i32 r] w fun e w' => e = .returned (.int .u64 (hitF g op r : Int)) ∧ Below w.heap.size w w' := by
  have HGR := Lib.hid h
  obtain ⟨va, vt, vs, hp, hr⟩ := h
  obtain ⟨oa, ca, hva⟩ := own_shape hr.atoms
  obtain ⟨_, p1, _, _, _, _, _, _, hlt⟩ := hp.reads
  obtain ⟨n, hn2⟩ : ∃ n, g.atoms.length = n := ⟨_, rfl⟩
  rw [hva, hn2] at p1
  rw [hn2] at hn
  have HR := Lib.hid hr
  have HN := Lib.hid hn2
  have HVA := Lib.hid (show va = .slice oa n ca by rw [hva, hn2])
  have HO := Lib.hid ho
  obtain ⟨R, hR⟩ : ∃ R, hitF g op r = R := ⟨_, rfl⟩
  rw [hR]
  have HRR := Lib.hid hR
  clear hp hr hva hn2 ho hR
  go_enter Try.func71, Try.ntmps71
  go_wp2_with fail
  go_loopg [7, 15] n (fun k v7 v wr => ∃ (i l : Nat), k + i = n ∧ v = .int .i64 i ∧ v7 = .int .u64 (l : Int) ∧ Hid (Below w.heap.size w wr ∧ l = hitTo g.atoms op r i))
  case atStart => exact ⟨0, 0, rfl, rfl, rfl, Below.refl _ _, rfl⟩
  case round =>
    obtain ⟨i, l, hgk, rfl, rfl, H⟩ := hrel
    have HGK := Lib.hid hgk
    by_cases hin : i < n
    · have i1 : (i : Int) < n := by omega
      obtain ⟨x, hx⟩ : ∃ x, g.atoms[i]? = some x := ⟨_, List.getElem?_eq_getElem (by rw [HN.out]; exact hin)⟩
      have hrow := own_below HR.out.atoms H.out.1
      have hlen : vs.length = g.atoms.length := by have := HR.out.atoms.1; omega
      obtain ⟨v, hv⟩ : ∃ v, vs[i]? = some v := ⟨_, List.getElem?_eq_getElem (by rw [hlen, HN.out]; exact hin)⟩
      have htr := (HR.out.kids i v x hv hx).stays H.out.1
      obtain ⟨g1, c1, hv1, _⟩ := own_some hrow (by rw [HN.out]; omega)
      have hc0 := hrow.cells (g := g1) (by rw [hv1]; rfl) i v hv
      rw [Addr.add_lit, Nat.zero_add] at hc0
      rw [HVA.out] at hv1
      injection hv1 with e1 e2 e3
      clear e2
      subst e1
      have hbit := bit_at (A := op) (k := i) HO.out
      have hsh := shl_one (n := i) (by omega)
      have hll := hitTo_lt g.atoms op r i
      rw [← H.out.2] at hll
      have hor := or_at (A := l) (B := 2 ^ i) (pow_mono hll (by omega)) (Nat.pow_lt_pow_right (by omega) (by omega))
      obtain ⟨N, hN⟩ : ∃ N : Nat, 2 ^ i = N := ⟨_, rfl⟩
      obtain ⟨O, hO⟩ : ∃ O : Nat, l ||| N = O := ⟨_, rfl⟩
      rw [hN] at hsh hor
      rw [hO] at hor
      have HNX := Lib.hid (show hitTo g.atoms op r (i + 1) = if op.testBit i && fitsF x r then O else l by
        rw [hitTo, getD_of hx, ← H.out.2, hN, hO])
      obtain ⟨tv, uv, rfl⟩ := htr.iface
      have HF := Lib.hid (fits_any x _ r _ wr htr)
      have HB := Lib.hid H.out.1
      clear hgk hx hrow hv htr hlen H hll hN hO e3
      cases hb : op.testBit i with
      | false =>
        rw [hb] at hbit
        have HT := Lib.hid (show l = hitTo g.atoms op r (i + 1) by rw [HNX.out, hb]; rfl)
        clear hb
        go_wp2_with fail
        go_roundg (gk - 1)
        case measure => have := HGK.out; omega
        case rel => exact ⟨i + 1, l, by have := HGK.out; omega, by go_num, rfl, HB.out, HT.out⟩
      | true =>
        rw [hb] at hbit
        have HBT := Lib.hid hb
        clear hb
        cases hf : fitsF x r with
        | false =>
          have HT := Lib.hid (show l = hitTo g.atoms op r (i + 1) by rw [HNX.out, HBT.out, hf]; rfl)
          rw [hf] at HF
          clear hf
          go_wp2_with fail
          refine HF.out.mono ?_
          rintro e w1 ⟨rfl, b1⟩
          have HB1 := Lib.hid (HB.out.trans (b1.mono HB.out.size))
          clear b1
          go_wp2_with fail
          go_roundg (gk - 1)
          case measure => have := HGK.out; omega
          case rel => exact ⟨i + 1, l, by have := HGK.out; omega, by go_num, rfl, HB1.out, HT.out⟩
        | true =>
          have HT := Lib.hid (show O = hitTo g.atoms op r (i + 1) by rw [HNX.out, HBT.out, hf]; rfl)
          rw [hf] at HF
          clear hf
          go_wp2_with fail
          refine HF.out.mono ?_
          rintro e w1 ⟨rfl, b1⟩
          have HB1 := Lib.hid (HB.out.trans (b1.mono HB.out.size))
          clear b1
          go_wp2_with fail
          go_roundg (gk - 1)
          case measure => have := HGK.out; omega
          case rel => exact ⟨i + 1, O, by have := HGK.out; omega, by go_num, rfl, HB1.out, HT.out⟩
    · have i1 : (n : Int) ≤ i := by omega
      have HT := Lib.hid (show l = R by rw [← HRR.out, H.out.2]; unfold hitF; rw [HN.out, show i = n by omega])
      clear hgk
      go_wp2_with fail
      go_ret
      exact ⟨ret_int (by rw [HT.out]), H.out.1⟩

set_option maxHeartbeats 4000000 in
set_option maxRecDepth 100000 in
theorem behind_any (bp : Nat) (t a b c : Value) (g : Gr) (hh : Nat) (w : World) (h : GrAt w bp t a b c g) (hn : g.atoms.length ≤ 64) (ho : hh < 2 ^ 64) (hok : GrOk g) :
    Calls Try.prog 72 #[.pointer (some ⟨bp, 1, none⟩), .int .u64 (hh : Int)] w fun e w' => e = .returned (.int .u64 (behF g hh : Int)) ∧ w = w' := by
  obtain ⟨va, vt, vs, hp, hr⟩ := h
  obtain ⟨ot, ct, hvt⟩ := own_shape hr.links
  obtain ⟨_, _, p2, _, _, _, _, _, hlt⟩ := hp.reads
  obtain ⟨n, hn2⟩ : ∃ n, g.thn.length = n := ⟨_, rfl⟩
  rw [hvt, hn2] at p2
  rw [← hok.len, hn2] at hn
  have HR := Lib.hid hr
  have HN := Lib.hid hn2
  have HVT := Lib.hid (show vt = .slice ot n ct by rw [hvt, hn2])
  have HO := Lib.hid ho
  have HOK := Lib.hid hok
  obtain ⟨R, hR⟩ : ∃ R, behF g hh = R := ⟨_, rfl⟩
  rw [hR]
  have HRR := Lib.hid hR
  clear hp hr hvt hn2 ho hR hok
  go_enter Try.func72, Try.ntmps72
  go_wp2_with fail
  go_loopg [5, 13] n (fun k v5 v wr => ∃ (i l : Nat), k + i = n ∧ v = .int .i64 i ∧ v5 = .int .u64 (l : Int) ∧ Hid (w = wr) ∧ Hid (l = behTo g.thn hh i))
  case atStart => exact ⟨0, 0, rfl, rfl, rfl, rfl, rfl⟩
  case round =>
    obtain ⟨i, l, hgk, rfl, rfl, HW, H⟩ := hrel
    obtain rfl := HW.out
    have HGK := Lib.hid hgk
    by_cases hin : i < n
    · have i1 : (i : Int) < n := by omega
      obtain ⟨x, hx⟩ : ∃ x, g.thn[i]? = some x := ⟨_, List.getElem?_eq_getElem (by rw [HN.out]; exact hin)⟩
      have hrow := HR.out.links
      obtain ⟨g1, c1, hv1, _⟩ := own_some hrow (by rw [HN.out]; omega)
      have hc0 := hrow.cells (g := g1) (by rw [hv1]; rfl) i _ (u64s_at hx)
      rw [Addr.add_lit, Nat.zero_add] at hc0
      rw [HVT.out] at hv1
      injection hv1 with e1 e2 e3
      clear e2
      subst e1
      have hbit := bit_at (A := hh) (k := i) HO.out
      have h64 : 2 ^ g.atoms.length ≤ 2 ^ 64 := Nat.pow_le_pow_right (by omega) (by rw [← HOK.out.len, HN.out]; exact hn)
      have hll := behTo_lt g.thn hh g.atoms.length HOK.out.small i
      rw [← H.out] at hll
      have hor := or_at (A := l) (B := x) (by omega) (by have := HOK.out.small x (List.mem_of_getElem? hx); omega)
      obtain ⟨O, hO⟩ : ∃ O : Nat, l ||| x = O := ⟨_, rfl⟩
      rw [hO] at hor
      have HNX := Lib.hid (show behTo g.thn hh (i + 1) = if hh.testBit i then O else l by
        rw [behTo, getD_of hx, ← H.out, hO])
      clear hgk hx hrow H hll hO e3 h64
      cases hb : hh.testBit i with
      | false =>
        rw [hb] at hbit
        have HT := Lib.hid (show l = behTo g.thn hh (i + 1) by rw [HNX.out, hb]; rfl)
        clear hb
        go_wp2_with fail
        go_roundg (gk - 1)
        case measure => have := HGK.out; omega
        case rel => exact ⟨i + 1, l, by have := HGK.out; omega, by go_num, rfl, rfl, HT⟩
      | true =>
        rw [hb] at hbit
        have HT := Lib.hid (show O = behTo g.thn hh (i + 1) by rw [HNX.out, hb]; rfl)
        clear hb
        go_wp2_with fail
        go_roundg (gk - 1)
        case measure => have := HGK.out; omega
        case rel => exact ⟨i + 1, O, by have := HGK.out; omega, by go_num, rfl, rfl, HT⟩
    · have i1 : (n : Int) ≤ i := by omega
      have HT := Lib.hid (show l = R by rw [← HRR.out, H.out]; unfold behF; rw [HN.out, show i = n by omega])
      clear hgk
      go_wp2_with fail
      go_ret
      exact ⟨ret_int (by rw [HT.out]), rfl⟩
end Go.Proofs.Ytmidpekkomhogaa.Pat
end

section
/- A walk: how many runes there are. -/

namespace Go.Proofs.Ytmidpekkomhogaa
open Go.RowKit

set_option maxHeartbeats 1000000 in
set_option maxRecDepth 100000 in
theorem count_any (s : ByteArray) (w : World) (hs : s.size ≤ maxLen) : Calls Try.prog 56 #[.string s] w fun e w' => e = .returned (.int .i64 (countOf s.data.toList : Nat)) ∧ Below w.heap.size w w' := by
  unfold maxLen at hs
  go_enter Try.func56, Try.ntmps56
  go_wp2
  go_loopw [3] (fun v wr => ∃ (pos k : Nat), wr.heap[w.heap.size]? = some (.stringIter s pos) ∧ Below w.heap.size w wr ∧ v = .int .i64 k ∧ Hid (k + (sufs (s.data.toList.drop pos)).length = countOf s.data.toList) ∧ k ≤ pos ∧ pos ≤ s.size) (fun _ wr => s.size - wr.iterPos w.heap.size)
  case atStart => exact ⟨0, 0, World.iter_heap w s 0, (Below.refl _ _).alloc (Nat.le_refl _) _, rfl, (by show _ = _; simp [countOf]), Nat.le_refl _, Nat.zero_le _⟩
  case round =>
    obtain ⟨pos, k, hit, hbw, rfl, H, hk, hps⟩ := hrel
    have hpos0 := iterPos_of hit
    by_cases hp : pos < s.size
    · have hnx : ∀ ty, (Instr.next (.pointer (some ⟨w.heap.size, 0, none⟩)) true ty).run Try.prog wr = _ := fun ty => Lib.run_next_any_at wr w.heap.size s pos ty hit hp
      have hwd := width1 s pos
      have hwl := width_le hp
      have hit2 := Lib.iterAt_heap wr w.heap.size s pos (pos + (Utf8.decode s pos).2) hit
      have hbw2 := Lib.below_iterAt hbw (k := w.heap.size) (Nat.le_refl _) s (pos + (Utf8.decode s pos).2)
      have H2 : Hid (k + 1 + (sufs (s.data.toList.drop (pos + (Utf8.decode s pos).2))).length = countOf s.data.toList) := by
        show _ = _
        rw [← H.out, sufs_at hp, List.length_cons]; omega
      go_wp2
      go_roundw
      case rel => exact ⟨pos + (Utf8.decode s pos).2, k + 1, hit2, hbw2, by go_num, H2, by omega, hwl⟩
      case measure => rw [iterPos_of hit2, hpos0]; omega
    · have hnx : ∀ ty, (Instr.next (.pointer (some ⟨w.heap.size, 0, none⟩)) true ty).run Try.prog wr = _ := fun ty => Lib.run_next_end_at wr w.heap.size s pos ty hit hp
      have H2 : Hid (k = countOf s.data.toList) := by
        show _ = _
        rw [← H.out, drop_end hp]; simp [sufs_nil]
      go_wp2
      go_ret
      exact ⟨ret_int (by rw [H2.out]), hbw⟩

end Go.Proofs.Ytmidpekkomhogaa
end

section
/- Runes counted: as the texts of glyph have it. -/
end

section
/- Patterns: a text is held against a pattern. -/

namespace Go.Proofs.Ytmidpekkomhogaa.Pat
open Go.RowKit

/-- A pattern in memory. -/
def PatAt (w : World) (bp : Nat) (s : ByteArray) (p : Eg × Gr) : Prop := GrAt w bp (.string s) (.bool p.1.none) (.int .u64 (p.1.first : Int)) (.int .u64 (p.1.last : Int)) p.2
structure PatOk (p : Eg × Gr) : Prop where
  ok : GrOk p.2
  few : p.2.atoms.length ≤ 64
  first : p.1.first < 2 ^ 64
  last : p.1.last < 2 ^ 64
theorem PatAt.below {w w' : World} {bp : Nat} {s : ByteArray} {p : Eg × Gr} (h : PatAt w bp s p) (hb : Below w.heap.size w w') : PatAt w' bp s p := GrAt.below h hb
theorem PatAt.under {w w' : World} {bp : Nat} {s : ByteArray} {p : Eg × Gr} (h : PatAt w bp s p) (hb : Below w.heap.size w w') : PatAt w' bp s p := h.below hb
theorem GrAt.tail {w : World} {bp : Nat} {t a b c : Value} {g : Gr} (h : GrAt w bp t a b c g) : w.cell? ⟨bp, 3, none⟩ = some a ∧ w.cell? ⟨bp, 4, none⟩ = some b ∧ w.cell? ⟨bp, 5, none⟩ = some c ∧ w.cell? ⟨bp, 0, none⟩ = some t := by
  obtain ⟨va, vt, vs, hp, _⟩ := h
  obtain ⟨q0, _, _, q3, q4, q5, _⟩ := hp.reads
  exact ⟨q3, q4, q5, q0⟩
theorem and_at {A B : Nat} (hA : A < 2 ^ 64) (hB : B < 2 ^ 64) : (bits .and .u64 (A : Int) (B : Int) != 0) = decide (A &&& B ≠ 0) := by
  have h64 : (2 : Nat) ^ 64 = 18446744073709551616 := by decide
  rw [u64_and_nat _ _ (by rw [← h64]; exact hA) (by rw [← h64]; exact hB)]
  generalize A &&& B = m
  cases m with
  | zero => rfl
  | succ k => simp; omega

set_option maxHeartbeats 4000000 in
set_option maxRecDepth 100000 in
theorem begins_any (bp : Nat) (ps : ByteArray) (p : Eg × Gr) (s : ByteArray) (w : World) (h : PatAt w bp ps p) (hok : PatOk p) (hs : s.size ≤ 1099511627776) :
    Calls Try.prog 59 #[.pointer (some ⟨bp, 0, none⟩), .string s] w fun e w' => e = .returned (.int .i64 (begF p (spell s.data.toList))) ∧ Below w.heap.size w w' := by
  have hlt := GrAt.lt h
  obtain ⟨R, hR⟩ : ∃ R, begF p (spell s.data.toList) = R := ⟨_, rfl⟩
  rw [hR]
  obtain ⟨⟨pn, pf, pl⟩, g⟩ := p
  have HP := Lib.hid h
  obtain ⟨va, vt, vs, hpat, _⟩ := h
  obtain ⟨_, _, _, p3, p4, p5, _, _, _⟩ := hpat.reads
  dsimp only at p3 p4 p5
  have HOK := Lib.hid hok
  have HR := Lib.hid hR
  clear hpat hok hR
  have key : ∀ (m : Int), m = (if pn then 0 else -1) → Hid (begGo g pl pf 0 m (spell (s.data.toList.drop 0)) = R) := by
    intro m hm
    subst hm
    show _ = _
    have := HR.out
    unfold begF at this
    simpa using this
  have KEY := Lib.hid key
  clear key
  cases pn with
  | true =>
    have K0 := KEY.out 0 rfl
    clear KEY
    go_enter Try.func59, Try.ntmps59
    go_wp2_with fail
    go_loopw [5, 6, 7] (fun v5 v6 v7 wr => ∃ (pos k op : Nat) (m : Int), v5 = .int .i64 m ∧ v6 = .int .u64 (op : Int) ∧ v7 = .int .i64 k ∧ wr.heap[w.heap.size]? = some (.stringIter s pos) ∧ Hid (Below w.heap.size w wr ∧ begGo g pl op k m (spell (s.data.toList.drop pos)) = R ∧ op < 2 ^ 64) ∧ k ≤ pos ∧ pos ≤ s.size) (fun _ _ _ wr => s.size - wr.iterPos w.heap.size)
    case atStart => exact ⟨0, 0, pf, 0, rfl, rfl, rfl, World.iter_heap w s 0, ⟨(Below.refl _ _).alloc (Nat.le_refl _) _, K0.out, HOK.out.first⟩, Nat.le_refl _, Nat.zero_le _⟩
    case round =>
      clear K0
      obtain ⟨pos, k, op, m, rfl, rfl, rfl, hit, H, hk, hps⟩ := hrel
      have hpos0 := iterPos_of hit
      by_cases hp : pos < s.size
      · have hnx : ∀ ty, (Instr.next (.pointer (some ⟨w.heap.size, 0, none⟩)) true ty).run Try.prog wr = _ := fun ty => Lib.run_next_any_at wr w.heap.size s pos ty hit hp
        have hwd := width1 s pos
        have hwl := width_le hp
        have hit2 := Lib.iterAt_heap wr w.heap.size s pos (pos + (Utf8.decode s pos).2) hit
        have hbw2 := Lib.below_iterAt H.out.1 (k := w.heap.size) (Nat.le_refl _) s (pos + (Utf8.decode s pos).2)
        have hsp := spell_at hp
        obtain ⟨r, hr⟩ : ∃ r : Int, ((Utf8.decode s pos).1 : Int) = r := ⟨_, rfl⟩
        rw [hr] at hsp
        obtain ⟨W1, hW1⟩ : ∃ W1, W1 = wr.iterAt w.heap.size s (pos + (Utf8.decode s pos).2) := ⟨_, rfl⟩
        rw [← hW1] at hnx hit2 hbw2
        rw [hr] at hnx
        obtain ⟨p2, hp2⟩ : ∃ p2, pos + (Utf8.decode s pos).2 = p2 := ⟨_, rfl⟩
        rw [hp2] at hit2 hwl hsp
        have hlt2 : pos < p2 := by omega
        have HG1 := Lib.hid (show GrAt W1 bp (.string ps) (.bool true) (.int .u64 (pf : Int)) (.int .u64 (pl : Int)) g from (PatAt.under HP.out hbw2))
        have HHT := Lib.hid (hit_any bp _ _ _ _ g op r W1 HG1.out HOK.out.few H.out.2.2)
        have hh64 : hitF g op r < 2 ^ 64 := pow_mono (hitF_lt g op r) HOK.out.few
        have HEQ := Lib.hid (show (if hitF g op r = 0 then m else begGo g pl (behF g (hitF g op r)) (k + 1) (if hitF g op r &&& pl = 0 then m else ((k + 1 : Nat) : Int)) (spell (s.data.toList.drop p2))) = R by
          have := H.out.2.1
          rw [hsp, begGo] at this
          exact this)
        have HBH := Lib.hid (fun (W : World) (hW : GrAt W bp (.string ps) (.bool true) (.int .u64 (pf : Int)) (.int .u64 (pl : Int)) g) => behind_any bp _ _ _ _ g (hitF g op r) W hW HOK.out.few hh64 HOK.out.ok)
        have hb64 : behF g (hitF g op r) < 2 ^ 64 := pow_mono (behF_lt g HOK.out.ok _) HOK.out.few
        have hand := and_at hh64 HOK.out.last
        dsimp only at hand
        obtain ⟨hb, hhb⟩ : ∃ h, hitF g op r = h := ⟨_, rfl⟩
        rw [hhb] at HHT HEQ HBH hb64 hand
        obtain ⟨be, hbe⟩ : ∃ h, behF g hb = h := ⟨_, rfl⟩
        rw [hbe] at HEQ HBH hb64
        have HB64 := Lib.hid hb64
        have HB := Lib.hid hbw2
        clear hW1 hit hr hsp hp2 hwd H hh64 hhb hbe hb64 hbw2
        cases hb with
        | zero =>
          have HT := Lib.hid (show m = R by have := HEQ.out; rwa [if_pos rfl] at this)
          go_wp2_with fail
          refine HHT.out.mono ?_
          rintro e w2 ⟨rfl, b2⟩
          have HB2 := Lib.hid (HB.out.trans (b2.mono HB.out.size))
          clear b2
          go_wp2_with fail
          go_ret
          exact ⟨ret_int HT.out, HB2.out⟩
        | succ h1 =>
          obtain ⟨hb, hhb⟩ : ∃ h, h1 + 1 = h := ⟨_, rfl⟩
          rw [hhb] at HHT HEQ HBH hand
          have hb0 : 0 < hb := by omega
          have hne : ((hb : Int) == 0) = false := by simp; omega
          clear hhb
          obtain ⟨M, hM⟩ : ∃ M : Int, (if hb &&& pl = 0 then m else ((k + 1 : Nat) : Int)) = M := ⟨_, rfl⟩
          have HT := Lib.hid (show begGo g pl be (k + 1) M (spell (s.data.toList.drop p2)) = R by have := HEQ.out; rw [if_neg (by omega), hM] at this; exact this)
          have HM := Lib.hid hM
          clear hM
          cases hd : decide (hb &&& pl ≠ 0) with
          | true =>
            rw [hd] at hand
            have HMM := Lib.hid (show M = ((k + 1 : Nat) : Int) by rw [← HM.out, if_neg (by simpa using hd)])
            clear hd
            go_wp2_with fail
            refine HHT.out.mono ?_
            rintro e w2 ⟨rfl, b2⟩
            obtain ⟨q3, q4, q5, _⟩ := (HG1.out.below b2).tail
            have HG2 := Lib.hid (HG1.out.below b2)
            have hit3 := (b2.block w.heap.size (Array.getElem?_eq_some_iff.1 hit2).1).trans hit2
            have HB2 := Lib.hid (HB.out.trans (b2.mono HB.out.size))
            clear b2 hit2
            go_wp2_with fail
            refine (HBH.out _ HG2.out).mono ?_
            rintro e w3 ⟨rfl, rfl⟩
            go_wp2_with fail
            go_roundw
            case rel => exact ⟨p2, k + 1, be, M, by rw [HMM.out]; go_num, rfl, by go_num, hit3, ⟨HB2.out, HT.out, HB64.out⟩, by omega, hwl⟩
            case measure => rw [iterPos_of hit3, hpos0]; omega
          | false =>
            rw [hd] at hand
            have HMM := Lib.hid (show M = m by rw [← HM.out, if_pos (by simpa using hd)])
            clear hd
            go_wp2_with fail
            refine HHT.out.mono ?_
            rintro e w2 ⟨rfl, b2⟩
            obtain ⟨q3, q4, q5, _⟩ := (HG1.out.below b2).tail
            have HG2 := Lib.hid (HG1.out.below b2)
            have hit3 := (b2.block w.heap.size (Array.getElem?_eq_some_iff.1 hit2).1).trans hit2
            have HB2 := Lib.hid (HB.out.trans (b2.mono HB.out.size))
            clear b2 hit2
            go_wp2_with fail
            refine (HBH.out _ HG2.out).mono ?_
            rintro e w3 ⟨rfl, rfl⟩
            go_wp2_with fail
            go_roundw
            case rel => exact ⟨p2, k + 1, be, M, by rw [HMM.out], rfl, by go_num, hit3, ⟨HB2.out, HT.out, HB64.out⟩, by omega, hwl⟩
            case measure => rw [iterPos_of hit3, hpos0]; omega
      · have hnx : ∀ ty, (Instr.next (.pointer (some ⟨w.heap.size, 0, none⟩)) true ty).run Try.prog wr = _ := fun ty => Lib.run_next_end_at wr w.heap.size s pos ty hit hp
        have HT := Lib.hid (show m = R by
          have := H.out.2.1
          rw [spell_end hp, begGo] at this
          exact this)
        go_wp2_with fail
        go_ret
        exact ⟨ret_int HT.out, H.out.1⟩
  | false =>
    have K0 := KEY.out (-1) rfl
    clear KEY
    go_enter Try.func59, Try.ntmps59
    go_wp2_with fail
    go_loopw [5, 6, 7] (fun v5 v6 v7 wr => ∃ (pos k op : Nat) (m : Int), v5 = .int .i64 m ∧ v6 = .int .u64 (op : Int) ∧ v7 = .int .i64 k ∧ wr.heap[w.heap.size]? = some (.stringIter s pos) ∧ Hid (Below w.heap.size w wr ∧ begGo g pl op k m (spell (s.data.toList.drop pos)) = R ∧ op < 2 ^ 64) ∧ k ≤ pos ∧ pos ≤ s.size) (fun _ _ _ wr => s.size - wr.iterPos w.heap.size)
    case atStart => exact ⟨0, 0, pf, (-1), rfl, rfl, rfl, World.iter_heap w s 0, ⟨(Below.refl _ _).alloc (Nat.le_refl _) _, K0.out, HOK.out.first⟩, Nat.le_refl _, Nat.zero_le _⟩
    case round =>
      clear K0
      obtain ⟨pos, k, op, m, rfl, rfl, rfl, hit, H, hk, hps⟩ := hrel
      have hpos0 := iterPos_of hit
      by_cases hp : pos < s.size
      · have hnx : ∀ ty, (Instr.next (.pointer (some ⟨w.heap.size, 0, none⟩)) true ty).run Try.prog wr = _ := fun ty => Lib.run_next_any_at wr w.heap.size s pos ty hit hp
        have hwd := width1 s pos
        have hwl := width_le hp
        have hit2 := Lib.iterAt_heap wr w.heap.size s pos (pos + (Utf8.decode s pos).2) hit
        have hbw2 := Lib.below_iterAt H.out.1 (k := w.heap.size) (Nat.le_refl _) s (pos + (Utf8.decode s pos).2)
        have hsp := spell_at hp
        obtain ⟨r, hr⟩ : ∃ r : Int, ((Utf8.decode s pos).1 : Int) = r := ⟨_, rfl⟩
        rw [hr] at hsp
        obtain ⟨W1, hW1⟩ : ∃ W1, W1 = wr.iterAt w.heap.size s (pos + (Utf8.decode s pos).2) := ⟨_, rfl⟩
        rw [← hW1] at hnx hit2 hbw2
        rw [hr] at hnx
        obtain ⟨p2, hp2⟩ : ∃ p2, pos + (Utf8.decode s pos).2 = p2 := ⟨_, rfl⟩
        rw [hp2] at hit2 hwl hsp
        have hlt2 : pos < p2 := by omega
        have HG1 := Lib.hid (show GrAt W1 bp (.string ps) (.bool false) (.int .u64 (pf : Int)) (.int .u64 (pl : Int)) g from (PatAt.under HP.out hbw2))
        have HHT := Lib.hid (hit_any bp _ _ _ _ g op r W1 HG1.out HOK.out.few H.out.2.2)
        have hh64 : hitF g op r < 2 ^ 64 := pow_mono (hitF_lt g op r) HOK.out.few
        have HEQ := Lib.hid (show (if hitF g op r = 0 then m else begGo g pl (behF g (hitF g op r)) (k + 1) (if hitF g op r &&& pl = 0 then m else ((k + 1 : Nat) : Int)) (spell (s.data.toList.drop p2))) = R by
          have := H.out.2.1
          rw [hsp, begGo] at this
          exact this)
        have HBH := Lib.hid (fun (W : World) (hW : GrAt W bp (.string ps) (.bool false) (.int .u64 (pf : Int)) (.int .u64 (pl : Int)) g) => behind_any bp _ _ _ _ g (hitF g op r) W hW HOK.out.few hh64 HOK.out.ok)
        have hb64 : behF g (hitF g op r) < 2 ^ 64 := pow_mono (behF_lt g HOK.out.ok _) HOK.out.few
        have hand := and_at hh64 HOK.out.last
        dsimp only at hand
        obtain ⟨hb, hhb⟩ : ∃ h, hitF g op r = h := ⟨_, rfl⟩
        rw [hhb] at HHT HEQ HBH hb64 hand
        obtain ⟨be, hbe⟩ : ∃ h, behF g hb = h := ⟨_, rfl⟩
        rw [hbe] at HEQ HBH hb64
        have HB64 := Lib.hid hb64
        have HB := Lib.hid hbw2
        clear hW1 hit hr hsp hp2 hwd H hh64 hhb hbe hb64 hbw2
        cases hb with
        | zero =>
          have HT := Lib.hid (show m = R by have := HEQ.out; rwa [if_pos rfl] at this)
          go_wp2_with fail
          refine HHT.out.mono ?_
          rintro e w2 ⟨rfl, b2⟩
          have HB2 := Lib.hid (HB.out.trans (b2.mono HB.out.size))
          clear b2
          go_wp2_with fail
          go_ret
          exact ⟨ret_int HT.out, HB2.out⟩
        | succ h1 =>
          obtain ⟨hb, hhb⟩ : ∃ h, h1 + 1 = h := ⟨_, rfl⟩
          rw [hhb] at HHT HEQ HBH hand
          have hb0 : 0 < hb := by omega
          have hne : ((hb : Int) == 0) = false := by simp; omega
          clear hhb
          obtain ⟨M, hM⟩ : ∃ M : Int, (if hb &&& pl = 0 then m else ((k + 1 : Nat) : Int)) = M := ⟨_, rfl⟩
          have HT := Lib.hid (show begGo g pl be (k + 1) M (spell (s.data.toList.drop p2)) = R by have := HEQ.out; rw [if_neg (by omega), hM] at this; exact this)
          have HM := Lib.hid hM
          clear hM
          cases hd : decide (hb &&& pl ≠ 0) with
          | true =>
            rw [hd] at hand
            have HMM := Lib.hid (show M = ((k + 1 : Nat) : Int) by rw [← HM.out, if_neg (by simpa using hd)])
            clear hd
            go_wp2_with fail
            refine HHT.out.mono ?_
            rintro e w2 ⟨rfl, b2⟩
            obtain ⟨q3, q4, q5, _⟩ := (HG1.out.below b2).tail
            have HG2 := Lib.hid (HG1.out.below b2)
            have hit3 := (b2.block w.heap.size (Array.getElem?_eq_some_iff.1 hit2).1).trans hit2
            have HB2 := Lib.hid (HB.out.trans (b2.mono HB.out.size))
            clear b2 hit2
            go_wp2_with fail
            refine (HBH.out _ HG2.out).mono ?_
            rintro e w3 ⟨rfl, rfl⟩
            go_wp2_with fail
            go_roundw
            case rel => exact ⟨p2, k + 1, be, M, by rw [HMM.out]; go_num, rfl, by go_num, hit3, ⟨HB2.out, HT.out, HB64.out⟩, by omega, hwl⟩
            case measure => rw [iterPos_of hit3, hpos0]; omega
          | false =>
            rw [hd] at hand
            have HMM := Lib.hid (show M = m by rw [← HM.out, if_pos (by simpa using hd)])
            clear hd
            go_wp2_with fail
            refine HHT.out.mono ?_
            rintro e w2 ⟨rfl, b2⟩
            obtain ⟨q3, q4, q5, _⟩ := (HG1.out.below b2).tail
            have HG2 := Lib.hid (HG1.out.below b2)
            have hit3 := (b2.block w.heap.size (Array.getElem?_eq_some_iff.1 hit2).1).trans hit2
            have HB2 := Lib.hid (HB.out.trans (b2.mono HB.out.size))
            clear b2 hit2
            go_wp2_with fail
            refine (HBH.out _ HG2.out).mono ?_
            rintro e w3 ⟨rfl, rfl⟩
            go_wp2_with fail
            go_roundw
            case rel => exact ⟨p2, k + 1, be, M, by rw [HMM.out], rfl, by go_num, hit3, ⟨HB2.out, HT.out, HB64.out⟩, by omega, hwl⟩
            case measure => rw [iterPos_of hit3, hpos0]; omega
      · have hnx : ∀ ty, (Instr.next (.pointer (some ⟨w.heap.size, 0, none⟩)) true ty).run Try.prog wr = _ := fun ty => Lib.run_next_end_at wr w.heap.size s pos ty hit hp
        have HT := Lib.hid (show m = R by
          have := H.out.2.1
          rw [spell_end hp, begGo] at this
          exact this)
        go_wp2_with fail
        go_ret
        exact ⟨ret_int HT.out, H.out.1⟩
end Go.Proofs.Ytmidpekkomhogaa.Pat
end

section
/- Patterns, plain: as much of a text as its beginning says is taken whole, and no more. No program in it. -/

namespace Go.Proofs.Ytmidpekkomhogaa.Pat

def wholeF (p : Eg × Gr) (rs : List Int) : Bool := begF p rs == (rs.length : Int)
end Go.Proofs.Ytmidpekkomhogaa.Pat
end

section
/- Patterns: read, and told. -/

namespace Go.Proofs.Ytmidpekkomhogaa.Pat
open Go.RowKit

theorem countOf_len (l : List UInt8) : countOf l = (spell l).length := by unfold countOf spell; rw [List.length_map]

set_option maxHeartbeats 4000000 in
set_option maxRecDepth 100000 in
theorem whole_any (bp : Nat) (ps : ByteArray) (p : Eg × Gr) (s : ByteArray) (w : World) (h : PatAt w bp ps p) (hok : PatOk p) (hs : s.size ≤ 1099511627776) :
    Calls Try.prog 47 #[.pointer (some ⟨bp, 0, none⟩), .string s] w fun e w' => e = .returned (.bool (wholeF p (spell s.data.toList))) ∧ Below w.heap.size w w' := by
  have HB := Lib.hid (begins_any bp ps p s w h hok hs)
  have HC := Lib.hid (fun W => count_any s W (by unfold maxLen; omega))
  obtain ⟨B, hB⟩ : ∃ B, begF p (spell s.data.toList) = B := ⟨_, rfl⟩
  obtain ⟨C, hC⟩ : ∃ C, countOf s.data.toList = C := ⟨_, rfl⟩
  have hw : wholeF p (spell s.data.toList) = (B == (C : Int)) := by unfold wholeF; rw [hB, ← countOf_len, hC]
  rw [hB] at HB
  rw [hC] at HC
  rw [hw]
  clear h hok hB hC hw hs
  go_enter Try.func47, Try.ntmps47
  go_wp2_with fail
  refine HB.out.mono ?_
  rintro e w1 ⟨rfl, b1⟩
  have HB1 := Lib.hid b1
  clear b1
  go_wp2_with fail
  refine (HC.out w1).mono ?_
  rintro e w2 ⟨rfl, b2⟩
  have HB2 := Lib.hid (HB1.out.trans (b2.mono HB1.out.size))
  clear b2
  go_wp2
  go_ret
  exact ⟨rfl, HB2.out⟩

set_option maxHeartbeats 4000000 in
set_option maxRecDepth 100000 in
theorem clone_any (s : ByteArray) (w : World) (hs : s.size ≤ 281474976710656) :
    Calls Try.prog 40 #[.string s] w fun e w' => e = .returned (.string s) ∧ Below w.heap.size w w' := by
  go_enter Try.func40, Try.ntmps40
  go_wp2_with (go_at_call 52; refine (Try.stringslite_Clone _ _ hs).mono ?_; rintro e w1 ⟨rfl, b1⟩)
  go_ret
  exact ⟨rfl, b1⟩
set_option maxHeartbeats 4000000 in
set_option maxRecDepth 100000 in
theorem compile_long (s : ByteArray) (w : World) (hs : s.size ≤ 1000000) (h : 40 < (spell s.data.toList).length) :
    Calls Try.prog 46 #[.string s] w fun e w' => e = .returned (.tuple #[.pointer none, .int .i64 1]) ∧ Below w.heap.size w w' := by
  have HC := Lib.hid (count_any s w (by unfold maxLen; omega))
  rw [← countOf_len] at h
  obtain ⟨C, hC⟩ : ∃ C, countOf s.data.toList = C := ⟨_, rfl⟩
  rw [hC] at HC h
  have i1 : (40 : Int) < C := by omega
  clear hC
  go_enter Try.func46, Try.ntmps46
  go_wp2_with fail
  refine HC.out.mono ?_
  rintro e w1 ⟨rfl, b1⟩
  go_wp2
  go_ret2
  exact ⟨rfl, b1⟩
set_option maxHeartbeats 4000000 in
set_option maxRecDepth 100000 in
theorem compile_form (s : ByteArray) (w : World) (hs : s.size ≤ 1000000) (h : ¬ 40 < (spell s.data.toList).length) (hr : readP (spell s.data.toList) = none) :
    Calls Try.prog 46 #[.string s] w fun e w' => e = .returned (.tuple #[.pointer none, .int .i64 2]) ∧ Below w.heap.size w w' := by
  have HC := Lib.hid (count_any s w (by unfold maxLen; omega))
  have HRD := Lib.hid (fun W => read_any s W hs)
  rw [hr] at HRD
  rw [← countOf_len] at h
  obtain ⟨C, hC⟩ : ∃ C, countOf s.data.toList = C := ⟨_, rfl⟩
  rw [hC] at HC h
  have i1 : (C : Int) ≤ 40 := by omega
  clear hC hr
  go_enter Try.func46, Try.ntmps46
  go_wp2_with fail
  refine HC.out.mono ?_
  rintro e w1 ⟨rfl, b1⟩
  have HB1 := Lib.hid b1
  clear b1
  go_wp2_with fail
  refine (HRD.out w1).mono ?_
  rintro e w2 ⟨v, rfl, b2⟩
  have HB2 := Lib.hid (HB1.out.trans (b2.mono HB1.out.size))
  clear b2
  go_wp2
  go_ret2
  exact ⟨rfl, HB2.out⟩
theorem fresh_pat (w : World) (s : ByteArray) : GrAt (w.alloc (Obj.cells #[.string s, .slice none 0 0, .slice none 0 0, .bool false, .int .u64 0, .int .u64 0] 114)) w.heap.size (.string s) (.bool false) (.int .u64 0) (.int .u64 0) ⟨[], []⟩ :=
  ⟨_, _, [], Array.getElem?_push_size, World.ownsRow_nil _ _ _ _, World.ownsRow_nil _ _ _ _, fun j u x h => by simp at h⟩
theorem GrAt.frees {w : World} {bp : Nat} {t a b c : Value} {g : Gr} (h : GrAt w bp t a b c g) : w.cell? ⟨bp, 3, none⟩ = some a ∧ w.cell? ⟨bp, 4, none⟩ = some b ∧ w.cell? ⟨bp, 5, none⟩ = some c ∧ w.frozen? ⟨bp, 3, none⟩ = false ∧ w.frozen? ⟨bp, 4, none⟩ = false ∧ w.frozen? ⟨bp, 5, none⟩ = false := by
  obtain ⟨va, vt, vs, hp, _⟩ := h
  unfold Pat at hp
  refine ⟨?_, ?_, ?_, ?_, ?_, ?_⟩ <;> simp [World.cell?, World.frozen?, hp]
theorem GrRow.setPat {w : World} {bp i : Nat} {va vt u : Value} {vs : List Value} {g : Gr} (h : GrRow w bp va vt vs g) : GrRow (w.setCell ⟨bp, i, none⟩ u) bp va vt vs g :=
  ⟨ownsRow_setCell_below h.atoms (a := ⟨bp, i, none⟩) (Nat.lt_succ_self bp) u, ownsRow_setCell_below h.links (a := ⟨bp, i, none⟩) (Nat.lt_succ_self bp) u, fun j uu y hu hy => (h.kids j uu y hu hy).keep fun b hb _ => ⟨heap_setCell_other _ _ _ _ (by show b ≠ bp; omega), hb⟩⟩
theorem put_all {w : World} {bp : Nat} {t a b c p q r : Value} {g : Gr} (h : GrAt w bp t a b c g) : GrAt (((w.setCell ⟨bp, 3, none⟩ p).setCell ⟨bp, 4, none⟩ q).setCell ⟨bp, 5, none⟩ r) bp t p q r g := by
  obtain ⟨va, vt, vs, hp, hr⟩ := h
  refine ⟨va, vt, vs, ?_, hr.setPat.setPat.setPat⟩
  have e1 := heap_setCell_same w bp 3 _ 114 p hp
  have e2 := heap_setCell_same _ bp 4 _ 114 q e1
  exact heap_setCell_same _ bp 5 _ 114 r e2
/-- A pattern that was read. -/
def Comp (w : World) (s : ByteArray) (p : Eg × Gr) (e : Ending) (w' : World) : Prop := ∃ bp, e = .returned (.tuple #[.pointer (some ⟨bp, 0, none⟩), .int .i64 0]) ∧ PatAt w' bp s p ∧ Below w.heap.size w w'
theorem readP_ok {rs : List Int} {x : Pt} (h : readP rs = some x) (hl : ¬ 40 < rs.length) : PatOk (layF x ⟨[], []⟩) := by
  have hsz := readP_size h
  have hok : GrOk ⟨[], []⟩ := ⟨rfl, fun t ht => by simp at ht⟩
  obtain ⟨h1, h2, h3, h4⟩ := layF_ok x ⟨[], []⟩ hok
  have e : ((⟨[], []⟩ : Gr).atoms.length + x.size) = x.size := by simp
  rw [e] at h2 h3 h4
  exact ⟨h1, by omega, pow_mono h3 (by omega), pow_mono h4 (by omega)⟩
set_option maxHeartbeats 4000000 in
set_option maxRecDepth 100000 in
theorem compile_ok (s : ByteArray) (x : Pt) (w : World) (hs : s.size ≤ 1000000) (h : ¬ 40 < (spell s.data.toList).length) (hr : readP (spell s.data.toList) = some x) :
    Calls Try.prog 46 #[.string s] w (Comp w s (layF x ⟨[], []⟩)) := by
  have HC := Lib.hid (count_any s w (by unfold maxLen; omega))
  have HRD := Lib.hid (fun W => read_any s W hs)
  have hsz := readP_size hr
  rw [hr] at HRD
  rw [← countOf_len] at h
  obtain ⟨C, hC⟩ : ∃ C, countOf s.data.toList = C := ⟨_, rfl⟩
  rw [← countOf_len, hC] at hsz
  rw [hC] at HC h
  have i1 : (C : Int) ≤ 40 := by omega
  obtain ⟨T, hT⟩ : ∃ T, layF x ⟨[], []⟩ = T := ⟨_, rfl⟩
  rw [hT]
  have HL := Lib.hid (fun W bp (v : Value) (h1 : GrAt W bp (.string s) (.bool false) (.int .u64 0) (.int .u64 0) ⟨[], []⟩) (h2 : Tree W (fun k => k < bp) v x) => (show Calls Try.prog 58 #[.pointer (some ⟨bp, 1, none⟩), v] W (LayRes W bp (.string s) (.bool false) (.int .u64 0) (.int .u64 0) T) by
    rw [← hT]; exact lay_any x W bp _ _ _ _ v ⟨[], []⟩ h1 h2 (by simp; omega) ⟨rfl, fun t ht => by simp at ht⟩))
  have HCL := Lib.hid (fun W => clone_any s W (by omega))
  clear hC hr hT hsz h
  go_enter Try.func46, Try.ntmps46
  go_wp2_with fail
  refine HC.out.mono ?_
  rintro e w1 ⟨rfl, b1⟩
  have HB1 := Lib.hid b1
  clear b1
  go_wp2_with fail
  refine (HRD.out w1).mono ?_
  rintro e w2 ⟨v, rfl, ht2, b2⟩
  have HB2 := Lib.hid (HB1.out.trans (b2.mono HB1.out.size))
  have HT2 := Lib.hid ht2
  clear b2 ht2
  go_wp2_with fail
  refine (HCL.out w2).mono ?_
  rintro e w3 ⟨rfl, b3⟩
  have HB3 := Lib.hid (HB2.out.trans (b3.mono HB2.out.size))
  have HT3 := Lib.hid (HT2.out.stays b3)
  clear b3
  go_wp2_with fail
  refine (HL.out _ w3.heap.size v (fresh_pat w3 s) (HT3.out.keep fun b _ hl => ⟨Below.heap_alloc _ _ _ hl, hl⟩)).mono ?_
  rintro e w4 ⟨rfl, hg4, hb4, _⟩
  obtain ⟨q3, q4, q5, f3, f4, f5⟩ := hg4.frees
  have HG4 := Lib.hid hg4
  have HB4 := Lib.hid (show Below w.heap.size w w4 from (HB3.out.trans (((Below.refl _ _).alloc (Nat.le_refl _) _).mono HB3.out.size)).trans (hb4.mono HB3.out.size))
  have hsz := HB3.out.size
  clear hg4 hb4
  go_wp2_with fail
  go_ret2
  exact ⟨_, rfl, put_all HG4.out, ((HB4.out.setCell hsz _).setCell hsz _).setCell hsz _⟩
end Go.Proofs.Ytmidpekkomhogaa.Pat
end
