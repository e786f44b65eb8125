/- A walk: the row of bytes. -/
import Derived.Test.YtldlfmeppcdbbaaYc
namespace Go.Proofs.Ytldlfmeppcdbbaa.Row
open Go.RowKit Go.Proofs.Ytldlfmeppcdbbaa.Crc

/-- What Get answers. -/
def GotR (B : Nat) (b : List UInt8) (e : Ending) (w' : World) : Prop :=
  match getR b with
  | none => e = .returned (.tuple #[.agg #[.slice none 0 0, .int .i64 0], .string ⟨#[]⟩, .int .i64 2])
  | some (xs, v, r) => ∃ o c, e = .returned (.tuple #[.agg #[.slice o xs.length c, .int .i64 v], .string ⟨r.toArray⟩, .int .i64 0]) ∧ w'.ownsRow B 79 2 (.slice o xs.length c) xs.length (flatL xs)
theorem two_set0 {w : World} {k : Nat} {a b u : Value} {t : TypeId} (h : w.heap[k]? = some (.cells #[a, b] t (0, 0))) : (w.setCell ⟨k, 0, none⟩ u).heap[k]? = some (.cells #[u, b] t (0, 0)) :=
  heap_setCell_same w k 0 _ _ _ h
theorem two_set1 {w : World} {k : Nat} {a b u : Value} {t : TypeId} (h : w.heap[k]? = some (.cells #[a, b] t (0, 0))) : (w.setCell ⟨k, 1, none⟩ u).heap[k]? = some (.cells #[a, u] t (0, 0)) :=
  heap_setCell_same w k 1 _ _ _ h
theorem free_two {W : World} {k : Nat} {a b : Value} {t : TypeId} (h : W.heap[k]? = some (.cells #[a, b] t (0, 0))) : W.frozen? ⟨k, 0, none⟩ = false ∧ W.frozen? ⟨k, 1, none⟩ = false := by
  constructor <;> simp [World.frozen?, h]

set_option maxHeartbeats 8000000 in
set_option maxRecDepth 100000 in
theorem get_any (b : ByteArray) (w : World) (hb : b.size ≤ 1000000) :
    Calls Try.prog 71 #[.string b] w fun e w' => GotR w.heap.size b.data.toList e w' ∧ Below w.heap.size w w' := by
  obtain ⟨l, hl⟩ : ∃ l, b.data.toList = l := ⟨_, rfl⟩
  have hll : l.length ≤ 1000000 := by rw [← hl, ← Lib.size_eq]; exact hb
  have hbl : b = ⟨l.toArray⟩ := by rw [← hl, str_of]
  have HG := Lib.hid (code_get l)
  have hm1 : l.length ≤ maxLen := by unfold maxLen; omega
  have HL := Lib.hid (fun (W : World) (h : Rd W (w.heap.size + 1) (l, false)) => labels_any (w.heap.size + 1) (l, false) W h hm1)
  obtain ⟨n, hn⟩ : ∃ n, (numP 1 (l, false)).1 = n := ⟨_, rfl⟩
  obtain ⟨s1, hs1⟩ : ∃ s1, (numP 1 (l, false)).2 = s1 := ⟨_, rfl⟩
  have hl1 : s1.1.length ≤ l.length := by rw [← hs1]; exact takeP_len 1 (l, false)
  simp only [hn, hs1] at HG HL
  obtain ⟨xs, hxs⟩ : ∃ xs, (labsP n s1).1 = xs := ⟨_, rfl⟩
  obtain ⟨s2, hs2⟩ : ∃ s2, (labsP n s1).2 = s2 := ⟨_, rfl⟩
  have hxl : xs.length = n := by rw [← hxs]; exact labsP_len n s1
  have hl2 : s2.1.length ≤ l.length := by rw [← hs2]; exact Nat.le_trans (labsP_left n s1) hl1
  simp only [hxs, hs2] at HG HL
  have HN := Lib.hid (fun (W : World) (h : Rd W (w.heap.size + 1) s2) => number_any (w.heap.size + 1) 6 s2 W h (Nat.le_trans hl2 hm1) (by decide))
  obtain ⟨u, hu⟩ : ∃ u, (numP 6 s2).1 = u := ⟨_, rfl⟩
  obtain ⟨s3, hs3⟩ : ∃ s3, (numP 6 s2).2 = s3 := ⟨_, rfl⟩
  have hl3 : s3.1.length ≤ l.length := by rw [← hs3]; exact Nat.le_trans (takeP_len 6 s2) hl2
  have hu6 : u < 281474976710656 := by
    have h := valA_lt (takeP 6 s2).1 0
    have h1 := takeP_small 6 s2
    have h2 : 256 ^ (takeP 6 s2).1.length ≤ 256 ^ 6 := Nat.pow_le_pow_right (by decide) h1
    rw [← hu]
    show valA 0 (takeP 6 s2).1 < _
    simp only [Nat.zero_add, Nat.one_mul] at h
    exact Nat.lt_of_lt_of_le h h2
  simp only [hu, hs3] at HG HN
  obtain ⟨left, sh⟩ := s3
  have HR := Lib.hid (fun (o : Option Addr) (c : Nat) (W : World) (s : SeesO W o xs) => (show Calls Try.prog 55 #[.slice o n c] W fun e w' => e = .returned (.bool (rightB xs)) ∧ Below W.heap.size W w' from by
    have := right_any o c xs W (by rw [hxl, ← hn]; have := numP_one (l, false); unfold maxLen; omega) s
    rwa [hxl] at this))
  have HF := Lib.hid (fun (W : World) => Fix.right_any ((u : Int) - 1000000000000) W)
  have HC := Lib.hid (fun (W : World) => clone_any ⟨left.toArray⟩ W (by rw [str_size]; simp only [] at hl3; omega))
  simp only [] at HG
  obtain ⟨v, hv⟩ : ∃ v : Int, (u : Int) - 1000000000000 = v := ⟨_, rfl⟩
  simp only [hv] at HG HF
  obtain ⟨W1, hW1⟩ : ∃ W1, (w.alloc (Obj.cells #[Value.slice none 0 0, Value.int .i64 0] 40)).alloc (Obj.cells #[Value.string b, Value.bool false] 122) = W1 := ⟨_, rfl⟩
  have hz0 : (w.alloc (Obj.cells #[Value.slice none 0 0, Value.int .i64 0] 40)).heap.size = w.heap.size + 1 := Array.size_push _
  have hz1 : W1.heap.size = w.heap.size + 2 := by rw [← hW1]; exact (Array.size_push _).trans (by rw [hz0])
  have HB1 := Lib.hid (show Below w.heap.size w W1 by rw [← hW1]; exact ((Below.refl _ _).alloc (Nat.le_refl _) _).alloc (by omega) _)
  have HD1 := Lib.hid (show Rd W1 (w.heap.size + 1) (l, false) by
    have := box_row (w.alloc (Obj.cells #[Value.slice none 0 0, Value.int .i64 0] 40)) (Value.string b) (Value.bool false) 122
    rw [hW1, hz0, hbl] at this
    exact this)
  have HX1 := Lib.hid (show W1.heap[w.heap.size]? = some (.cells #[Value.slice none 0 0, Value.int .i64 0] 40 (0, 0)) by
    rw [← hW1]
    exact (Below.heap_alloc _ _ _ (by omega)).trans (box_row w _ _ _))
  have HW1 := Lib.hid hW1
  have HXL := Lib.hid hxl
  have HL0 := Lib.hid hl
  clear hn hs1 hxs hs2 hu hs3 hW1 hl hb hm1 hl1 hl2 hl3 hbl hxl
  go_enter Try.func71, Try.ntmps71
  go_wp2_with fail
  rw [HW1.out]
  refine (HL.out _ HD1.out).mono ?_
  rintro e w2 ⟨⟨lv, rfl, hO2⟩, hR2, hg2⟩
  have HB2 := Lib.hid (Below.grown HB1.out hg2 (by omega) (fun k hk => by cases hk; omega))
  have HX2 := Lib.hid ((hg2.block _ (by omega) (by intro e; injection e; omega)).trans HX1.out)
  have hz2 := hg2.size
  have hO2' : w2.ownsRow W1.heap.size 79 2 lv xs.length (flatL xs) := by rw [HXL.out]; exact hO2
  obtain ⟨o, c, rfl, hS2, _⟩ := own_sees hO2'
  rw [HXL.out] at hO2 ⊢
  have HO2 := Lib.hid hO2
  have HR2 := Lib.hid hR2
  clear hO2 hO2' hS2 hR2 hg2
  go_wp2_with fail
  refine (HN.out _ HR2.out).mono ?_
  rintro e w3 ⟨rfl, hR3, hg3⟩
  have HB3 := Lib.hid (Below.grown HB2.out hg3 (by omega) (fun k hk => by cases hk; omega))
  have HX3 := Lib.hid ((hg3.block _ (by omega) (by intro e; injection e; omega)).trans HX2.out)
  have hz3 := hg3.size
  have HO3 := Lib.hid (own_but HO2.out hg3 (by omega))
  obtain ⟨c0, c1, f0, f1⟩ := hR3.reads
  have HD3 := Lib.hid hR3
  clear hR3 hg3
  have HS3 := Lib.hid (show SeesO w3 o xs by
    have h := HO3.out
    have h2 : w3.ownsRow W1.heap.size 79 2 (.slice o n c) xs.length (flatL xs) := by rw [HXL.out]; exact h
    obtain ⟨o2, c2, e2, hs, _⟩ := own_sees h2
    cases e2; exact hs)
  cases sh with
  | true =>
    have HE := Lib.hid (show getR l = none by rw [HG.out, if_neg (by rintro ⟨h, _⟩; cases h)])
    obtain ⟨y0, y1⟩ := free_two HX3.out
    obtain ⟨x0, x1⟩ := box_two HX3.out
    have HX4 := Lib.hid (two_set1 (u := .int .i64 0) (two_set0 (u := .slice none 0 0) HX3.out))
    have HB4 := Lib.hid ((HB3.out.setCell (p := ⟨w.heap.size, 0, none⟩) (Nat.le_refl _) (Value.slice none 0 0)).setCell (p := ⟨w.heap.size, 1, none⟩) (Nat.le_refl _) (Value.int .i64 0))
    go_wp2
    obtain ⟨r0, r1⟩ := box_two HX4.out
    refine bodyPost_ret (v := .tuple #[.agg #[.slice none 0 0, .int .i64 0], .string ⟨#[]⟩, .int .i64 2]) (by simp [results, Try.results71, go_sem, r0, r1]) rfl ⟨?_, HB4.out⟩
    unfold GotR
    rw [HL0.out, HE.out]
  | false =>
    cases hr : rightB xs with
    | false =>
      rw [hr] at HR
      have HE := Lib.hid (show getR l = none by rw [HG.out, if_neg (by rintro ⟨_, h, _⟩; rw [hr] at h; cases h)])
      go_wp2_with fail
      refine (HR.out _ _ _ HS3.out).mono ?_
      rintro e w4 ⟨rfl, b4⟩
      have HB5 := Lib.hid (HB3.out.trans (b4.mono HB3.out.size))
      have HX5 := Lib.hid ((b4.block _ (by omega)).trans HX3.out)
      obtain ⟨d0, d1, g0, g1⟩ := (Rd.below HD3.out b4).reads
      have HO5 := Lib.hid (own_grown HO3.out b4)
      clear b4 c0 c1 f0 f1
      obtain ⟨y0, y1⟩ := free_two HX5.out
      obtain ⟨x0, x1⟩ := box_two HX5.out
      have HX4 := Lib.hid (two_set1 (u := .int .i64 0) (two_set0 (u := .slice none 0 0) HX5.out))
      have HB4 := Lib.hid ((HB5.out.setCell (p := ⟨w.heap.size, 0, none⟩) (Nat.le_refl _) (Value.slice none 0 0)).setCell (p := ⟨w.heap.size, 1, none⟩) (Nat.le_refl _) (Value.int .i64 0))
      go_wp2
      obtain ⟨r0, r1⟩ := box_two HX4.out
      refine bodyPost_ret (v := .tuple #[.agg #[.slice none 0 0, .int .i64 0], .string ⟨#[]⟩, .int .i64 2]) (by simp [results, Try.results71, go_sem, r0, r1]) rfl ⟨?_, HB4.out⟩
      unfold GotR
      rw [HL0.out, HE.out]
    | true =>
      rw [hr] at HR
      cases hvv : Fix.rgtB v with
      | false =>
        rw [hvv] at HF
        have HE := Lib.hid (show getR l = none by rw [HG.out, if_neg (by rintro ⟨_, _, h⟩; rw [hvv] at h; cases h)])
        go_wp2_with fail
        refine (HR.out _ _ _ HS3.out).mono ?_
        rintro e w4 ⟨rfl, b4⟩
        have HB5 := Lib.hid (HB3.out.trans (b4.mono HB3.out.size))
        have HX5 := Lib.hid ((b4.block _ (by omega)).trans HX3.out)
        obtain ⟨d0, d1, g0, g1⟩ := (Rd.below HD3.out b4).reads
        have HO5 := Lib.hid (own_grown HO3.out b4)
        clear b4 c0 c1 f0 f1
        go_wp2_with fail
        refine (HF.out _).mono ?_
        rintro e w5 ⟨rfl, rfl⟩
        obtain ⟨y0, y1⟩ := free_two HX5.out
        obtain ⟨x0, x1⟩ := box_two HX5.out
        have HX4 := Lib.hid (two_set1 (u := .int .i64 0) (two_set0 (u := .slice none 0 0) HX5.out))
        have HB4 := Lib.hid ((HB5.out.setCell (p := ⟨w.heap.size, 0, none⟩) (Nat.le_refl _) (Value.slice none 0 0)).setCell (p := ⟨w.heap.size, 1, none⟩) (Nat.le_refl _) (Value.int .i64 0))
        go_wp2
        obtain ⟨r0, r1⟩ := box_two HX4.out
        refine bodyPost_ret (v := .tuple #[.agg #[.slice none 0 0, .int .i64 0], .string ⟨#[]⟩, .int .i64 2]) (by simp [results, Try.results71, go_sem, r0, r1]) rfl ⟨?_, HB4.out⟩
        unfold GotR
        rw [HL0.out, HE.out]
      | true =>
        rw [hvv] at HF
        have HE := Lib.hid (show getR l = some (xs, v, left) by rw [HG.out, if_pos ⟨rfl, hr, hvv⟩])
        go_wp2_with fail
        refine (HR.out _ _ _ HS3.out).mono ?_
        rintro e w4 ⟨rfl, b4⟩
        have HB5 := Lib.hid (HB3.out.trans (b4.mono HB3.out.size))
        have HX5 := Lib.hid ((b4.block _ (by omega)).trans HX3.out)
        obtain ⟨d0, d1, g0, g1⟩ := (Rd.below HD3.out b4).reads
        have HO5 := Lib.hid (own_grown HO3.out b4)
        clear b4 c0 c1 f0 f1
        go_wp2_with fail
        refine (HF.out _).mono ?_
        rintro e w5 ⟨rfl, rfl⟩
        go_wp2_with fail
        refine (HC.out _).mono ?_
        rintro e w6 ⟨rfl, b6⟩
        have HB6 := Lib.hid (HB5.out.trans (b6.mono HB5.out.size))
        have hz5 := HB5.out.size
        have HX6 := Lib.hid ((b6.block _ (by have := (Array.getElem?_eq_some_iff.1 HX5.out).1; omega)).trans HX5.out)
        have HO6 := Lib.hid (own_grown HO5.out b6)
        obtain ⟨y0, y1⟩ := free_two HX6.out
        obtain ⟨x0, x1⟩ := box_two HX6.out
        have HX7 := Lib.hid (two_set1 (u := .int .i64 v) (two_set0 (u := .slice o n c) HX6.out))
        have HB7 := Lib.hid ((HB6.out.setCell (p := ⟨w.heap.size, 0, none⟩) (Nat.le_refl _) (Value.slice o n c)).setCell (p := ⟨w.heap.size, 1, none⟩) (Nat.le_refl _) (Value.int .i64 v))
        clear b6
        go_wp2
        obtain ⟨r0, r1⟩ := box_two HX7.out
        refine bodyPost_ret (v := .tuple #[.agg #[.slice o n c, .int .i64 v], .string ⟨left.toArray⟩, .int .i64 0]) (by simp [results, Try.results71, go_sem, r0, r1]) rfl ⟨?_, HB7.out⟩
        unfold GotR
        rw [HL0.out, HE.out]
        refine ⟨o, c, by rw [HXL.out], ?_⟩
        have h := own_mono (base' := w.heap.size) (ownsRow_setCell_other (a := ⟨w.heap.size, 1, none⟩) (ownsRow_setCell_other (a := ⟨w.heap.size, 0, none⟩) HO6.out (fun e => by have := (HO6.out.lt _ e).1; simp only [] at this; omega) (Value.slice o n c)) (fun e => by have := (HO6.out.lt _ e).1; simp only [] at this; omega) (Value.int .i64 v)) (by omega)
        rw [HXL.out]
        exact h
end Go.Proofs.Ytldlfmeppcdbbaa.Row
