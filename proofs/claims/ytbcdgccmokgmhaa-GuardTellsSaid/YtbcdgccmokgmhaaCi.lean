/- The law: one bit turned, another sum. -/
import Derived.Test.YtbcdgccmokgmhaaCg
import Derived.Lib.ConvBytes
import Derived.Deep.OwnRows
namespace Go.Proofs.Ytbcdgccmokgmhaa.Crc
open Go.RowKit Go.Lib

/-- A row of bytes of one's own: what stands in its cells. -/
structure BRow (w : World) (g : Nat) (l : List UInt8) : Prop where
  lt : g < w.heap.size
  cell : ∀ j (h : j < l.length), w.cell? ⟨g, j, none⟩ = some (.int .u8 (l[j].toNat : Nat))
  free : ∀ j, j < l.length → w.frozen? ⟨g, j, none⟩ = false
theorem BRow.set {w : World} {g : Nat} {l : List UInt8} (h : BRow w g l) (i : Nat) (hi : i < l.length) (c : UInt8) : BRow (w.setCell ⟨g, i, none⟩ (.int .u8 (c.toNat : Nat))) g (l.set i c) := by
  refine ⟨by simpa [World.setCell] using h.lt, fun j hj => ?_, fun j hj => ?_⟩
  · have hj2 : j < l.length := by rwa [List.length_set] at hj
    by_cases e : j = i
    · subst e
      rw [World.cell?_setCell_same (h := h.cell j hj2), List.getElem_set_self]
    · rw [World.cell?_setCell_other (h := show (⟨g, i, none⟩ : Addr) ≠ ⟨g, j, none⟩ from fun x => e (by cases x; rfl)), List.getElem_set_ne (Ne.symm e)]
      exact h.cell j hj2
  · rw [List.length_set] at hj
    rw [World.frozen?_setCell]; exact h.free j hj
theorem BRow.drew {w : World} {g : Nat} {l : List UInt8} (h : BRow w g l) : BRow w.drew g l := ⟨h.lt, h.cell, h.free⟩
theorem BRow.below {w w' : World} {g : Nat} {l : List UInt8} (h : BRow w g l) (hb : Below w.heap.size w w') : BRow w' g l :=
  ⟨Nat.lt_of_lt_of_le h.lt hb.size, fun j hj => (hb.cell (p := ⟨g, j, none⟩) h.lt).trans (h.cell j hj), fun j hj => (hb.frozen (p := ⟨g, j, none⟩) h.lt).trans (h.free j hj)⟩
theorem brow_new (w : World) (s : ByteArray) : BRow (bytesWorld w 5 s) w.heap.size s.data.toList := by
  refine ⟨by rw [bytesWorld_size]; omega, fun j hj => ?_, fun j hj => ?_⟩
  · rw [bytesWorld_cell w _ s j (by rw [Lib.size_eq]; exact hj), List.getD_eq_getElem?_getD, List.getElem?_eq_getElem hj]; rfl
  · have hj2 : j < (bytesCells w 5 s).size := by
      unfold bytesCells; rw [← Lib.size_eq] at hj; simp; omega
    simp [World.frozen?, bytesWorld_at_new]
    omega
theorem bytes_below (w : World) (s : ByteArray) : Below w.heap.size w (bytesWorld w 5 s) :=
  ⟨rfl, rfl, rfl, by rw [bytesWorld_size]; omega, fun k hk => bytesWorld_at_old w _ s k hk⟩
theorem addB (b j : Nat) : (⟨b, 0, none⟩ : Addr).add j = ⟨b, j, none⟩ := by
  unfold Addr.add
  split
  · next h => subst h; rfl
  · rw [Nat.zero_add]
/-- The row's bytes as a text. -/
theorem BRow.back {w : World} {g : Nat} {l : List UInt8} (h : BRow w g l) (n cap : Nat) (hn : l.length = n) (s : ByteArray) (hs : (⟨l.toArray⟩ : ByteArray) = s) : (convert 50 9 (.slice (some ⟨g, 0, none⟩) n cap)).run Try.prog w = .ok (.string s) w := by
  have h2 := run_convert_bytes_back (P := Try.prog) w 50 9 5 ⟨g, 0, none⟩ cap l Try.underlying50 Try.underlying5 Try.underlying9 (fun j hj => by rw [addB]; exact h.cell j hj)
  rw [hn, hs] at h2
  exact h2
theorem turn_bit (c : UInt8) (q : Nat) : bits .xor .u8 (c.toNat : Int) (128 / 2 ^ q) = ((flipB c q).toNat : Int) := by
  have h1 : 128 / 2 ^ q < 256 := Nat.lt_of_le_of_lt (Nat.div_le_self _ _) (by decide)
  have h2 : (128 : Int) / 2 ^ q = ((128 / 2 ^ q : Nat) : Int) := by rw [Int.natCast_ediv, Int.natCast_pow]; rfl
  rw [h2, u8_xor_nat _ _ c.toNat_lt h1]
  unfold flipB
  rw [u8, Nat.shiftRight_eq_div_pow, Nat.mod_eq_of_lt (Nat.xor_lt_two_pow (n := 8) c.toNat_lt h1)]
theorem flip_two (c : UInt8) (q : Nat) : flipB (flipB c q) q = c := by
  unfold flipB
  apply UInt8.toNat_inj.1
  rw [u8, u8]
  by_cases h : 128 >>> q < 256
  · rw [Nat.mod_eq_of_lt (Nat.xor_lt_two_pow (n := 8) c.toNat_lt h), Nat.xor_assoc, Nat.xor_self, Nat.xor_zero]
    exact Nat.mod_eq_of_lt c.toNat_lt
  · exact absurd (Nat.lt_of_le_of_lt (Nat.shiftRight_le _ _) (by decide)) h
/-- One bit turned: where it stands. -/
theorem flip_xor (l : List UInt8) (p q : Nat) (c : UInt8) (h : l[p]? = some c) (hq : q < 8) : bitsB (l.set p (flipB c q)) = xorL (bitsB l) ((List.replicate (8 * l.length) false).set (8 * p + q) true) := by
  have hp := (List.getElem?_eq_some_iff.1 h).1
  have h1 := xorL_set (bitsB l) (List.replicate (8 * l.length) false) (8 * p + q) (by rw [bitsB_len, List.length_replicate]) (by rw [List.getElem?_replicate, if_pos (by omega)])
  have h2 := xorL_zeros (bitsB l)
  rw [bitsB_len] at h2
  rw [h2] at h1
  rw [bits_flip l p q c h hq, h1]
theorem flip_sum (l : List UInt8) (p q : Nat) (c : UInt8) (h : l[p]? = some c) (hq : q < 8) : crcN (l.set p (flipB c q)) ≠ crcN l := by
  have hp := (List.getElem?_eq_some_iff.1 h).1
  refine crc_turn l _ _ (8 * p + q) (by rw [List.length_set, List.length_replicate]) (flip_xor l p q c h hq) (fun j hj e => ?_) ?_
  · rw [List.getElem_set] at e
    split at e
    · omega
    · rw [List.getElem_replicate] at e; cases e
  · exact List.mem_iff_getElem.2 ⟨8 * p + q, by rw [List.length_set, List.length_replicate]; omega, by rw [List.getElem_set_self]⟩
/-- A place among so many bits, as the statements take it of any number. -/
def placeN (a : Int) (M : Nat) : Nat := ((a.tmod M + M).tmod M).toNat
theorem place_lt (a : Int) (M : Nat) (h : 0 < M) : placeN a M < M := by
  unfold placeN
  have h1 := Int.tmod_lt_of_pos (a.tmod M + M) (b := M) (by omega)
  have h2 : 0 ≤ (a.tmod M + M).tmod M := Int.tmod_nonneg _ (by have := Int.lt_tmod_of_pos a (b := (M : Int)) (by omega); omega)
  omega
theorem place_is (a : Int) (M : Nat) (h : 0 < M) : (a.tmod M + M) % M = (placeN a M : Nat) := by
  have h1 := Int.lt_tmod_of_pos a (b := (M : Int)) (by omega)
  unfold placeN
  rw [Int.tmod_eq_emod_of_nonneg (a := a.tmod M + M) (by omega)]
  have := Int.emod_nonneg (a.tmod M + M) (b := M) (by omega)
  omega

set_option maxHeartbeats 2000000 in
set_option maxRecDepth 100000 in
theorem bits_any (s : ByteArray) (a : Int) (w : World) (hm : s.size ≤ maxLen) :
    Calls Try.prog 6 #[.string s, .int .i64 a] w fun e w' => e = .returned (.bool true) ∧ Below w.heap.size w w' := by
  have HA := Lib.hid (fun W => alive_any W)
  obtain ⟨n, hsz⟩ : ∃ n, s.size = n := ⟨_, rfl⟩
  unfold maxLen at hm
  rw [hsz] at hm
  have hmi : (n : Int) ≤ 9223372036854775807 := by omega
  by_cases h0 : n = 0
  · subst h0
    go_enter Try.func6, Try.ntmps6
    go_wp2_with fail
    refine (HA.out _).mono ?_
    rintro e w1 ⟨rfl, b1⟩
    have HB1 := Lib.hid b1
    clear b1
    go_wp2
    go_ret
    exact ⟨rfl, HB1.out⟩
  have j0 : ((n : Int) == 0) = false := by rw [beq_eq_false_iff_ne]; omega
  by_cases h1 : 2000 < n
  · have j1 : (2000 : Int) < n := by omega
    go_enter Try.func6, Try.ntmps6
    go_wp2_with fail
    refine (HA.out _).mono ?_
    rintro e w1 ⟨rfl, b1⟩
    have HB1 := Lib.hid b1
    clear b1
    go_wp2
    go_ret
    exact ⟨rfl, HB1.out⟩
  have j1 : (n : Int) ≤ 2000 := by omega
  have hlen : s.data.toList.length = n := by rw [← Lib.size_eq]; exact hsz
  obtain ⟨M, hM⟩ : ∃ M : Nat, 8 * n = M := ⟨_, rfl⟩
  have i1 : 8 * (n : Int) = M := by omega
  have i2 : (M : Int) ≤ 16000 := by omega
  have i3 : (0 : Int) < M := by omega
  obtain ⟨k, hk⟩ : ∃ k, placeN a M = k := ⟨_, rfl⟩
  have hkM : k < M := by rw [← hk]; exact place_lt a M (by omega)
  have hpl := place_is a M (by omega)
  rw [hk] at hpl
  obtain ⟨r, hr⟩ : ∃ r, a.tmod (M : Int) = r := ⟨_, rfl⟩
  rw [hr] at hpl
  have r1 : -(M : Int) < r := by rw [← hr]; exact Int.lt_tmod_of_pos a (by omega)
  have r2 : r < M := by rw [← hr]; exact Int.tmod_lt_of_pos a (by omega)
  obtain ⟨t, ht⟩ : ∃ t, r + (M : Int) = t := ⟨_, rfl⟩
  rw [ht] at hpl
  have t1 : 0 < t := by omega
  have t2 : t < 40000 := by omega
  obtain ⟨p, hp⟩ : ∃ p, k / 8 = p := ⟨_, rfl⟩
  obtain ⟨q, hq⟩ : ∃ q, k % 8 = q := ⟨_, rfl⟩
  have hpn : p < n := by omega
  have hq8 : q < 8 := by omega
  have j2 : (k : Int) / 8 = p := by omega
  have j3 : (k : Int) % 8 = q := by omega
  have j4 : (p : Int) < n := by omega
  have j5 : (q : Int) < 8 := by omega
  have hcv : ∀ W : World, (convert 9 50 (.string s)).run Try.prog W = .ok (.slice (some ⟨W.heap.size, 0, none⟩) n (grownCap W n 0 5)) (bytesWorld W 5 s) := fun W => by
    rw [Lib.run_convert_string_bytes (P := Try.prog) W 9 50 5 s Try.underlying9 Try.underlying50 Try.underlying5, hsz]
  go_enter Try.func6, Try.ntmps6
  go_wp2_with fail
  refine (HA.out _).mono ?_
  rintro e w1 ⟨rfl, b1⟩
  have HB1 := Lib.hid b1
  clear b1
  go_wp2_with fail
  rw [hpl]
  obtain ⟨cap, hcap⟩ : ∃ cap, grownCap w1 n 0 5 = cap := ⟨_, rfl⟩
  rw [hcap]
  have hR0 := brow_new w1 s
  have HB2 := Lib.hid (HB1.out.trans ((bytes_below w1 s).mono HB1.out.size))
  have hg := HB1.out.size
  obtain ⟨wb, hwb⟩ : ∃ wb, bytesWorld w1 5 s = wb := ⟨_, rfl⟩
  obtain ⟨g, hgg⟩ : ∃ g, w1.heap.size = g := ⟨_, rfl⟩
  rw [hwb] at hR0 HB2 ⊢
  rw [hgg] at hR0 hg ⊢
  obtain ⟨l, hl⟩ : ∃ l, s.data.toList = l := ⟨_, rfl⟩
  rw [hl] at hR0 hlen
  have hpl2 : p < l.length := by omega
  obtain ⟨c, hc⟩ : ∃ c, l[p] = c := ⟨_, rfl⟩
  have c0 := hR0.cell p hpl2
  have f0 := hR0.free p hpl2
  rw [hc] at c0
  have x1 := turn_bit c q
  have R0 := Lib.hid hR0
  clear hR0 hcv hcap hwb HB1 hk hM hp hq ht hr hgg
  go_region
  have HN := flip_sum l p q c (by rw [List.getElem?_eq_getElem hpl2, hc]) hq8
  have hf2 := flip_two c q
  have x2 := turn_bit (flipB c q) q
  rw [hf2] at x2
  obtain ⟨d, hd⟩ : ∃ d, flipB c q = d := ⟨_, rfl⟩
  rw [hd] at HN x1 x2 ⊢
  have R1 := Lib.hid ((R0.out.set p hpl2 d).drew)
  have HB3 := Lib.hid ((HB2.out.setCell (p := ⟨g, p, none⟩) hg (.int .u8 (d.toNat : Nat))).drew)
  obtain ⟨w2, hw2⟩ : ∃ w2, (wb.setCell ⟨g, p, none⟩ (.int .u8 (d.toNat : Nat))).drew = w2 := ⟨_, rfl⟩
  rw [hw2] at R1 HB3 ⊢
  clear hw2 c0 f0 x1 HB2 R0 hf2 hd
  obtain ⟨u, hu⟩ : ∃ u : ByteArray, ⟨(l.set p d).toArray⟩ = u := ⟨_, rfl⟩
  have hll : (l.set p d).length = n := by rw [List.length_set]; exact hlen
  have hb1 := R1.out.back n cap hll u hu
  have hus : u.size ≤ 1099511627776 := by rw [← hu, str_size]; omega
  have HO1 := Lib.hid (fun W => of_is u W hus)
  have HO2 := Lib.hid (fun W => of_is s W (by omega))
  rw [show u.data.toList = l.set p d by rw [← hu, str_data]] at HO1
  rw [hl] at HO2
  generalize crcN (l.set p d) = X1 at HO1 HN
  generalize crcN l = X0 at HO2 HN
  have c1 := R1.out.cell p (by omega)
  rw [List.getElem_set_self] at c1
  have f1 := R1.out.free p (by omega)
  have hnb : ((X1 : Int) != X0) = true := bne_iff_ne.2 (by omega)
  have R2 := Lib.hid (show ∀ W, W = (w2.setCell ⟨g, p, none⟩ (.int .u8 (c.toNat : Nat))).drew → BRow W g l from fun W hW => by
    have h := (R1.out.set p (by omega) c).drew
    rw [List.set_set, ← hc, List.set_getElem_self, hc] at h
    rw [hW]; exact h)
  have HB4 := Lib.hid ((HB3.out.setCell (p := ⟨g, p, none⟩) hg (.int .u8 (c.toNat : Nat))).drew)
  clear HN hc R1 hus hu hll
  go_wp2_with fail
  refine (HO1.out _).mono ?_
  rintro e w3 ⟨rfl, rfl⟩
  go_wp2_with fail
  go_region
  obtain ⟨w4, hw4⟩ : ∃ w4, (w3.setCell ⟨g, p, none⟩ (.int .u8 (c.toNat : Nat))).drew = w4 := ⟨_, rfl⟩
  rw [hw4] at HB4 ⊢
  have hb2 := (R2.out w4 hw4.symm).back n cap hlen s (by rw [← hl, str_of])
  clear hw4 R2 c1 f1 x2 hb1
  go_wp2_with fail
  refine (HO2.out _).mono ?_
  rintro e w5 ⟨rfl, rfl⟩
  go_wp2_with fail
  refine (HO2.out _).mono ?_
  rintro e w5 ⟨rfl, rfl⟩
  go_wp2_with fail
  refine (HO2.out _).mono ?_
  rintro e w5 ⟨rfl, rfl⟩
  go_wp2
  go_ret
  exact ⟨rfl, HB4.out⟩
end Go.Proofs.Ytbcdgccmokgmhaa.Crc
