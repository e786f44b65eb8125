/- The law: bits turned among 32 that stand one behind the other: the frame is not taken. -/
import Derived.Test.YtbcdgccmokgmhaaCi
namespace Go.Proofs.Ytbcdgccmokgmhaa.Crc
open Go.RowKit Go.Lib

/-- Bytes of which bits are turned, from a place on, so far. -/
structure Burst (l0 : List UInt8) (k i : Nat) (l : List UInt8) (e : List Bool) (tb : Bool) : Prop where
  len : l.length = l0.length
  el : e.length = 8 * l0.length
  bits : bitsB l = xorL (bitsB l0) e
  near : ∀ j (hj : j < e.length), e[j] = true → k ≤ j ∧ j < k + i
  has : tb = true → true ∈ e
theorem burst_start (l0 : List UInt8) (k : Nat) : Burst l0 k 0 l0 (List.replicate (8 * l0.length) false) false := by
  refine ⟨rfl, List.length_replicate, ?_, fun j hj h => ?_, fun h => by cases h⟩
  · have h2 := xorL_zeros (bitsB l0)
    rw [bitsB_len] at h2
    exact h2.symm
  · rw [List.getElem_replicate] at h; cases h
theorem Burst.skip {l0 l : List UInt8} {k i : Nat} {e : List Bool} {tb : Bool} (h : Burst l0 k i l e tb) : Burst l0 k (i + 1) l e tb :=
  ⟨h.len, h.el, h.bits, fun j hj e => by have := h.near j hj e; omega, h.has⟩
theorem Burst.flip {l0 l : List UInt8} {k i p q : Nat} {e : List Bool} {tb : Bool} {c : UInt8} (h : Burst l0 k i l e tb) (hp : l[p]? = some c) (hq : q < 8) (hJ : 8 * p + q = k + i) : Burst l0 k (i + 1) (l.set p (flipB c q)) (e.set (k + i) true) true := by
  have hpl := (List.getElem?_eq_some_iff.1 hp).1
  have hlt : k + i < e.length := by rw [h.el, ← h.len]; omega
  have hf : e[k + i]? = some false := by
    rw [List.getElem?_eq_getElem hlt]
    cases hb : e[k + i] with
    | false => rfl
    | true => have := h.near _ hlt hb; omega
  refine ⟨by rw [List.length_set]; exact h.len, by rw [List.length_set]; exact h.el, ?_, fun j hj e1 => ?_, fun _ => ?_⟩
  · rw [bits_flip l p q c hp hq, hJ, h.bits]
    exact xorL_set _ _ _ (by rw [bitsB_len, h.el]) hf
  · rw [List.getElem_set] at e1
    split at e1
    · omega
    · have := h.near j (by rwa [List.length_set] at hj) e1; omega
  · exact List.mem_iff_getElem.2 ⟨k + i, by rw [List.length_set]; exact hlt, by rw [List.getElem_set_self]⟩
/-- Such a frame is not taken. -/
theorem burst_none (s r : List UInt8) (k i : Nat) (l : List UInt8) (e : List Bool) (h : Burst (frameL s) k i l e true) (hi : i ≤ 32) (hs : s.length ≤ 12000) : ∃ n, n ≠ 0 ∧ takeF (l ++ r) = (n, [], []) := by
  have hl := h.len
  have he := h.el
  rw [frameL_len] at hl he
  have h1 := take_burst s l r e k hs hl he h.bits (fun j hj e => by have := h.near j hj e; omega) (h.has rfl)
  have h2 := take_none h1
  exact ⟨_, h1, Prod.ext rfl (Prod.ext h2.1 h2.2)⟩

set_option maxHeartbeats 4000000 in
set_option maxRecDepth 100000 in
theorem bursts_any (s : ByteArray) (a : Int) (T : Nat) (bh : ByteArray) (w : World) (hm : s.size ≤ maxLen) (hbm : bh.size ≤ maxLen) (hT : T < 4294967296) :
    Calls Try.prog 4 #[.string s, .int .i64 a, .int .u32 T, .string bh] w fun e w' => e = .returned (.bool true) ∧ Below w.heap.size w w' := by
  have HA := Lib.hid (fun W => alive_any W)
  obtain ⟨n, hsz⟩ : ∃ n, s.size = n := ⟨_, rfl⟩
  obtain ⟨z, hbz⟩ : ∃ z, bh.size = z := ⟨_, rfl⟩
  unfold maxLen at hm hbm
  rw [hsz] at hm
  rw [hbz] at hbm
  have hmi : (n : Int) ≤ 9223372036854775807 := by omega
  have hbi : (z : Int) ≤ 9223372036854775807 := by omega
  by_cases h0 : 2000 < n
  · have j1 : (2000 : Int) < n := by omega
    go_enter Try.func4, Try.ntmps4
    go_wp2_with fail
    refine (HA.out _).mono ?_
    rintro e w1 ⟨rfl, b1⟩
    have HB1 := Lib.hid b1
    clear b1
    go_wp2
    go_ret
    exact ⟨rfl, HB1.out⟩
  have j1 : (n : Int) ≤ 2000 := by omega
  by_cases h1 : 100 < z
  · have j2 : (100 : Int) < z := by omega
    go_enter Try.func4, Try.ntmps4
    go_wp2_with fail
    refine (HA.out _).mono ?_
    rintro e w1 ⟨rfl, b1⟩
    have HB1 := Lib.hid b1
    clear b1
    go_wp2
    go_ret
    exact ⟨rfl, HB1.out⟩
  have j2 : (z : Int) ≤ 100 := by omega
  by_cases h2 : T = 0
  · subst h2
    go_enter Try.func4, Try.ntmps4
    go_wp2_with fail
    refine (HA.out _).mono ?_
    rintro e w1 ⟨rfl, b1⟩
    have HB1 := Lib.hid b1
    clear b1
    go_wp2
    go_ret
    exact ⟨rfl, HB1.out⟩
  have j3 : ((T : Int) == 0) = false := by rw [beq_eq_false_iff_ne]; omega
  have HF := Lib.hid (fun W => frame_any s W (by omega))
  have hfs := frameS_size s
  have hfd := frameS_data s
  rw [hsz] at hfs
  obtain ⟨f, hf⟩ : ∃ f, frameS s = f := ⟨_, rfl⟩
  rw [hf] at HF hfs hfd
  obtain ⟨N, hN⟩ : ∃ N, n + 10 = N := ⟨_, rfl⟩
  rw [hN] at hfs
  have i0 : (n : Int) + 10 = N := by omega
  have hN2 : (N : Int) ≤ 2010 := by omega
  obtain ⟨M, hM⟩ : ∃ M : Nat, 8 * N = M := ⟨_, rfl⟩
  have i1 : 8 * (N : Int) = M := by omega
  have i2 : (M : Int) ≤ 16080 := by omega
  have i3 : (0 : Int) < M := by omega
  obtain ⟨k, hk⟩ : ∃ k, placeN a M = k := ⟨_, rfl⟩
  have hkM : k < M := by rw [← hk]; exact place_lt a M (by omega)
  have hpl := place_is a M (by omega)
  rw [hk] at hpl
  obtain ⟨r, hr⟩ : ∃ r, a.tmod (M : Int) = r := ⟨_, rfl⟩
  rw [hr] at hpl
  have r1 : -(M : Int) < r := by rw [← hr]; exact Int.lt_tmod_of_pos a (by omega)
  have r2 : r < M := by rw [← hr]; exact Int.tmod_lt_of_pos a (by omega)
  obtain ⟨t, ht⟩ : ∃ t, r + (M : Int) = t := ⟨_, rfl⟩
  rw [ht] at hpl
  have t1 : 0 < t := by omega
  have t2 : t < 40000 := by omega
  have hcv : ∀ W : World, (convert 9 50 (.string f)).run Try.prog W = .ok (.slice (some ⟨W.heap.size, 0, none⟩) N (grownCap W N 0 5)) (bytesWorld W 5 f) := fun W => by
    rw [Lib.run_convert_string_bytes (P := Try.prog) W 9 50 5 f Try.underlying9 Try.underlying50 Try.underlying5, hfs]
  go_enter Try.func4, Try.ntmps4
  go_wp2_with fail
  refine (HA.out _).mono ?_
  rintro e w1 ⟨rfl, b1⟩
  have HB1 := Lib.hid b1
  clear b1
  go_wp2_with fail
  refine (HF.out _).mono ?_
  rintro e w2 ⟨rfl, b2⟩
  have HB2 := Lib.hid (HB1.out.trans (b2.mono HB1.out.size))
  clear b2
  go_wp2_with fail
  rw [hpl]
  obtain ⟨cap, hcap⟩ : ∃ cap, grownCap w2 N 0 5 = cap := ⟨_, rfl⟩
  rw [hcap]
  have hR0 := brow_new w2 f
  have HB3 := Lib.hid (HB2.out.trans ((bytes_below w2 f).mono HB2.out.size))
  have hg := HB2.out.size
  obtain ⟨wb, hwb⟩ : ∃ wb, bytesWorld w2 5 f = wb := ⟨_, rfl⟩
  obtain ⟨g, hgg⟩ : ∃ g, w2.heap.size = g := ⟨_, rfl⟩
  rw [hwb] at hR0 HB3 ⊢
  rw [hgg] at hR0 hg ⊢
  rw [hfd] at hR0
  obtain ⟨l0, hl0⟩ : ∃ l, frameL s.data.toList = l := ⟨_, rfl⟩
  rw [hl0] at hR0
  have hlen0 : l0.length = N := by rw [← hl0, frameL_len, ← Lib.size_eq, hsz]; exact hN
  have R0 := Lib.hid hR0
  have hM8 : 8 * l0.length = M := by omega
  have HS := Lib.hid (fun (i : Nat) (l : List UInt8) (e : List Bool) (hb : Burst l0 k i l e true) (hi : i ≤ 32) => burst_none s.data.toList bh.data.toList k i l e (by rw [hl0]; exact hb) hi (by rw [← Lib.size_eq]; omega))
  clear hR0 hcv hcap hwb HB1 HB2 HF HA hk hM ht hr hgg hl0 hfd hf hfs h0 h1 h2 j3 hN hsz hpl t1 t2 r1 r2 hm hbm
  go_loopw [13, 14] (fun v13 v14 wr => ∃ (i : Nat) (tb : Bool) (l : List UInt8) (e : List Bool), v13 = .bool tb ∧ v14 = .int .i64 i ∧ i ≤ 32 ∧ Hid (Burst l0 k i l e tb) ∧ Hid (BRow wr g l) ∧ Hid (Below w.heap.size w wr)) (fun _ v14 _ => 32 - (Go.RowKit.intOf v14).toNat)
  case atStart => exact ⟨0, false, l0, _, rfl, rfl, by omega, burst_start l0 k, R0, HB3⟩
  case round =>
    obtain ⟨i, tb, l, e, rfl, rfl, hi, HU, HR, HB⟩ := hrel
    by_cases hc : i < 32 ∧ k + i < M
    · obtain ⟨hi32, hJM⟩ := hc
      have i4 : (i : Int) < 32 := by omega
      obtain ⟨J, hJ⟩ : ∃ J, k + i = J := ⟨_, rfl⟩
      have i5 : (k : Int) + i = J := by omega
      have i6 : (J : Int) < M := by omega
      obtain ⟨x, hx⟩ : ∃ x, i + x = 31 := ⟨31 - i, by omega⟩
      have i7 : 31 - (i : Int) = x := by omega
      obtain ⟨m, hmm⟩ : ∃ m, T / 2 ^ x % 2 = m := ⟨_, rfl⟩
      have hm2 : m < 2 := by omega
      have hbit : bits .and .u32 ((T : Int) / 2 ^ x) 1 = m := by
        have h1 : (T : Int) / 2 ^ x = ((T / 2 ^ x : Nat) : Int) := by rw [Int.natCast_ediv, Int.natCast_pow]; rfl
        have h2 : T / 2 ^ x ≤ T := Nat.div_le_self _ _
        have h3 := u32_and_nat (T / 2 ^ x) 1 (by omega) (by decide)
        rw [Nat.and_one_is_mod, hmm] at h3
        rw [h1]; exact h3
      clear hx hmm
      by_cases h1 : m = 1
      · subst h1
        obtain ⟨p, hp⟩ : ∃ p, J / 8 = p := ⟨_, rfl⟩
        obtain ⟨q, hq⟩ : ∃ q, J % 8 = q := ⟨_, rfl⟩
        have hq8 : q < 8 := by omega
        have hll := HU.out.len
        have hpl2 : p < l.length := by omega
        obtain ⟨c, hc⟩ : ∃ c, l[p] = c := ⟨_, rfl⟩
        have j5 : (J : Int) / 8 = p := by omega
        have j6 : (J : Int) % 8 = q := by omega
        have j7 : (p : Int) < N := by omega
        have j8 : (q : Int) < 8 := by omega
        have c0 := HR.out.cell p hpl2
        have f0 := HR.out.free p hpl2
        rw [hc] at c0
        have x1 := turn_bit c q
        have HU2 := Lib.hid (HU.out.flip (c := c) (by rw [List.getElem?_eq_getElem hpl2, hc]) hq8 (show 8 * p + q = k + i by omega))
        have R1 := Lib.hid (HR.out.set p hpl2 (flipB c q)).drew
        have HB4 := Lib.hid ((HB.out.setCell (p := ⟨g, p, none⟩) hg (.int .u8 ((flipB c q).toNat : Nat))).drew)
        obtain ⟨d, hd⟩ : ∃ d, flipB c q = d := ⟨_, rfl⟩
        rw [hd] at HU2 x1 R1 HB4
        clear HU HR HB hd hc hJ hp hq hll
        go_wp2_with fail
        go_region
        go_wp2
        go_roundw
        case rel => exact ⟨i + 1, true, l.set p d, _, rfl, by go_num, by omega, HU2, R1, HB4⟩
        case measure => simp [Go.RowKit.intOf]; omega
      · obtain rfl : m = 0 := by omega
        have HU2 := Lib.hid HU.out.skip
        clear HU hJ
        go_wp2
        go_roundw
        case rel => exact ⟨i + 1, tb, l, e, rfl, by go_num, by omega, HU2, HR, HB⟩
        case measure => simp [Go.RowKit.intOf]; omega
    · obtain ⟨J, hJ⟩ : ∃ J, k + i = J := ⟨_, rfl⟩
      have i5 : (k : Int) + i = J := by omega
      have hJ2 : (J : Int) ≤ 20000 := by omega
      have hcj : (32 : Int) ≤ i ∨ ((i : Int) < 32 ∧ (M : Int) ≤ J) := by omega
      have hll : l.length = N := by rw [HU.out.len]; exact hlen0
      obtain ⟨u, hu⟩ : ∃ u : ByteArray, ⟨l.toArray⟩ = u := ⟨_, rfl⟩
      have hb1 := HR.out.back N cap hll u hu
      have hus : u.size = N := by rw [← hu, str_size]; exact hll
      have hub : (u ++ bh).size ≤ 1099511627776 := by rw [ByteArray.size_append]; omega
      have HT := Lib.hid (fun W => take_any (u ++ bh) W hub)
      have HE := Lib.hid (fun (h : tb = true) => (show ∃ n : Nat, n ≠ 0 ∧ takeV (u ++ bh) = .tuple #[.string ⟨#[]⟩, .string ⟨#[]⟩, .int .i64 n] from by
        obtain ⟨n, h1, h2⟩ := HS.out i l e (by rw [← h]; exact HU.out) hi
        refine ⟨n, h1, ?_⟩
        unfold takeV
        rw [app_data, ← hu, str_data, h2]))
      clear hc hJ HU HR HS hu hll hub
      cases tb with
      | false =>
        clear HE HT
        rcases hcj with hcj | ⟨hcj, hcj2⟩
        all_goals go_wp2
        all_goals go_ret
        all_goals exact ⟨rfl, HB.out⟩
      | true =>
        obtain ⟨n2, hn2, hv⟩ := HE.out rfl
        rw [hv] at HT
        have jn : ((n2 : Int) != 0) = true := bne_iff_ne.2 (by omega)
        clear HE hv hn2
        rcases hcj with hcj | ⟨hcj, hcj2⟩
        all_goals go_wp2_with fail
        all_goals refine (HT.out _).mono ?_
        all_goals rintro e w5 ⟨rfl, b5⟩
        all_goals have HB5 := Lib.hid (HB.out.trans (b5.mono HB.out.size))
        all_goals clear b5
        all_goals go_wp2
        all_goals go_ret
        all_goals exact ⟨rfl, HB5.out⟩
theorem u32_range {z : Int} (h : (Lit.int .u32 z).wf = true) : ∃ T : Nat, z = T ∧ T < 4294967296 := by
  simp [Lit.wf] at h
  have h1 : IntKind.min .u32 = 0 := by decide
  have h2 : IntKind.max .u32 = 4294967295 := by decide
  exact ⟨z.toNat, by omega, by omega⟩
end Go.Proofs.Ytbcdgccmokgmhaa.Crc
