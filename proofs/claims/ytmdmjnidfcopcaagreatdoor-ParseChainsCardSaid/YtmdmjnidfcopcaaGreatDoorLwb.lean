/- Chains of three numbers (the law). -/
import Derived.Test.YtmdmjnidfcopcaaGreatDoorNy
import Derived.Deep.DeepFit
import Derived.Deep.RegionHeld3
import Derived.Deep.CutRange
namespace Go.Proofs.YtmdmjnidfcopcaaGreatDoor.Par
open Go.RowKit Go.Lib
open Go.Proofs.YtmdmjnidfcopcaaGreatDoor.Sto

def opsB : List ByteArray := [⟨#[61, 61]⟩, ⟨#[33, 61]⟩, ⟨#[60]⟩, ⟨#[60, 61]⟩, ⟨#[62]⟩, ⟨#[62, 61]⟩, ⟨#[43]⟩, ⟨#[45]⟩, ⟨#[42]⟩, ⟨#[47]⟩, ⟨#[37]⟩]
abbrev opsCells : Array Value := #[.string ⟨#[61, 61]⟩, .string ⟨#[33, 61]⟩, .string ⟨#[60]⟩, .string ⟨#[60, 61]⟩, .string ⟨#[62]⟩, .string ⟨#[62, 61]⟩, .string ⟨#[43]⟩, .string ⟨#[45]⟩, .string ⟨#[42]⟩, .string ⟨#[47]⟩, .string ⟨#[37]⟩]
abbrev lvCells : Array Value := #[.int .i64 0, .int .i64 0, .int .i64 0, .int .i64 0, .int .i64 0, .int .i64 0, .int .i64 1, .int .i64 1, .int .i64 2, .int .i64 2, .int .i64 2]
theorem ops_at (P : Nat) (hP : P < 11) : ∃ (S : ByteArray) (L : Int), S.data.toList ∈ chainOps ∧ S.size ≤ 2 ∧ (levelS S.data.toList : Int) = L + 1 ∧ opsCells[P]? = some (.string S) ∧ lvCells[P]? = some (.int .i64 L) := by
  have : P = 0 ∨ P = 1 ∨ P = 2 ∨ P = 3 ∨ P = 4 ∨ P = 5 ∨ P = 6 ∨ P = 7 ∨ P = 8 ∨ P = 9 ∨ P = 10 := by omega
  rcases this with rfl | rfl | rfl | rfl | rfl | rfl | rfl | rfl | rfl | rfl | rfl <;> exact ⟨_, _, by decide, by decide, by decide, rfl, rfl⟩
theorem turn11 (p : Int) : ∃ (r : Int) (P : Nat), p.tmod 11 = r ∧ -10 ≤ r ∧ r ≤ 10 ∧ P < 11 ∧ (r + 11).tmod 11 = (P : Int) ∧ (r + 11) % 11 = (P : Int) := by
  have h1 : p.tmod 11 < 11 := Int.tmod_lt_of_pos p (by omega)
  have h2 : -11 < p.tmod 11 := by
    by_cases h : 0 ≤ p
    · have := Int.tmod_nonneg 11 h; omega
    · have e3 : p.tmod 11 = -((-p).tmod 11) := by rw [Int.neg_tmod]; omega
      have := Int.tmod_lt_of_pos (-p) (show (0 : Int) < 11 by omega)
      omega
  refine ⟨p.tmod 11, ((p.tmod 11 + 11) % 11).toNat, rfl, by omega, by omega, by omega, ?_, by omega⟩
  rw [Int.tmod_eq_emod_of_nonneg (by omega)]; omega
/-- A query in a box. -/
def QAt (w0 W : World) (v : Value) (x : Ex) : Prop := ∃ (k : Nat) (a tx : ByteArray) (z m : Int) (o1 : Option Addr) (k1 c1 : Nat) (o2 : Option Addr) (k2 c2 : Nat) (o3 : Option Addr) (k3 c3 : Nat), v = .pointer (some ⟨k, 0, none⟩) ∧ w0.heap.size ≤ k ∧ k < W.heap.size ∧ Box10 W k (.string a) (.string tx) (.int .i64 z) (.int .i64 m) (.slice o1 k1 c1) (.slice o2 k2 c2) (.slice o3 k3 c3) (.int .i64 0) (.int .i64 (-1)) (.int .i64 (-1)) ∧ Nod W (fun _ => True) [.string a, .string tx, .int .i64 z, .int .i64 m, .slice o1 k1 c1, .slice o2 k2 c2, .slice o3 k3 c3] x
theorem QAt.below {w0 W W' : World} {v : Value} {x : Ex} (h : QAt w0 W v x) (hb : Below W.heap.size W W') : QAt w0 W' v x := by
  obtain ⟨k, a, tx, z, m, o1, k1, c1, o2, k2, c2, o3, k3, c3, e, h1, h2, h3, h4⟩ := h
  exact ⟨k, a, tx, z, m, o1, k1, c1, o2, k2, c2, o3, k3, c3, e, h1, Nat.lt_of_lt_of_le h2 hb.size, (hb.block _ h2).trans h3, h4.under hb⟩
theorem chains_l (a b c : Nat) (ha : a ≤ 1000000000000) (hb : b ≤ 1000000000000) (hc : c ≤ 1000000000000) (P Q : ByteArray) (hP : P.data.toList ∈ chainOps) (hQ : Q.data.toList ∈ chainOps) :
    readL (decDigits a ++ (P.data.toList ++ (decDigits b ++ 32 :: (Q.data.toList ++ decDigits c)))) = some ⟨if levelS P.data.toList < levelS Q.data.toList then .bin P 0 [] (.num a) (.bin Q 0 [] (.num b) (.num c)) else .bin Q 0 [] (.bin P 0 [] (.num a) (.num b)) (.num c), 0, -1, -1⟩ ∧
    readL (40 :: (decDigits a ++ (P.data.toList ++ (decDigits b ++ 41 :: (Q.data.toList ++ decDigits c))))) = some ⟨.bin Q 0 [] (.bin P 0 [] (.num a) (.num b)) (.num c), 0, -1, -1⟩ ∧
    readL (decDigits a ++ (P.data.toList ++ 40 :: (decDigits b ++ (Q.data.toList ++ (decDigits c ++ [41]))))) = some ⟨.bin P 0 [] (.num a) (.bin Q 0 [] (.num b) (.num c)), 0, -1, -1⟩ := by
  obtain ⟨t1, t2, t3⟩ := chains_toks a b c ha hb hc _ _ hP hQ
  obtain ⟨r1, r2, r3⟩ := chains_read (decDigits a) (decDigits b) (decDigits c) _ hP _ hQ
  simp only [val_dec, bz_of] at r1 r2 r3
  exact ⟨by rw [readL_toks, t1]; exact r1, by rw [readL_toks, t2]; exact r2, by rw [readL_toks, t3]; exact r3⟩
theorem put10_below {B k : Nat} {a w : World} (h : Below B a w) (hk : B ≤ k) (y0 y1 y2 y3 y4 y5 y6 y7 y8 y9 : Value) : Below B a (put10 w k y0 y1 y2 y3 y4 y5 y6 y7 y8 y9) :=
  ((((((((((h.setCell hk _).setCell hk _).setCell hk _).setCell hk _).setCell hk _).setCell hk _).setCell hk _).setCell hk _).setCell hk _).setCell hk _)
theorem qat_new {w1 w9 : World} {a tx : ByteArray} {z m : Int} {o1 : Option Addr} {k1 c1 : Nat} {o2 : Option Addr} {k2 c2 : Nat} {o3 : Option Addr} {k3 c3 : Nat} {x : Ex} (h : w1.heap.size ≤ w9.heap.size) (hn : Nod w9 (fun _ => True) [.string a, .string tx, .int .i64 z, .int .i64 m, .slice o1 k1 c1, .slice o2 k2 c2, .slice o3 k3 c3] x) : QAt w1 (w9.alloc (QBox a tx z m o1 k1 c1 o2 k2 c2 o3 k3 c3 0 (-1) (-1))) (.pointer (some ⟨w9.heap.size, 0, none⟩)) x :=
  ⟨_, a, tx, z, m, o1, k1, c1, o2, k2, c2, o3, k3, c3, rfl, h, by simp, box10_new _ _ _ _ _ _ _ _ _ _ _, hn.under ((Below.refl _ _).alloc (Nat.le_refl _) _)⟩
theorem qat_put {w1 w9 : World} {k : Nat} {x0 x1 x2 x3 x4 x5 x6 x7 x8 x9 : Value} {a tx : ByteArray} {z m : Int} {o1 : Option Addr} {k1 c1 : Nat} {o2 : Option Addr} {k2 c2 : Nat} {o3 : Option Addr} {k3 c3 : Nat} {x : Ex} (h : w1.heap.size ≤ k) (hb : Box10 w9 k x0 x1 x2 x3 x4 x5 x6 x7 x8 x9) (hk : k < w9.heap.size) (hn : Nod w9 (fun b => k < b) [.string a, .string tx, .int .i64 z, .int .i64 m, .slice o1 k1 c1, .slice o2 k2 c2, .slice o3 k3 c3] x) : QAt w1 (put10 w9 k (.string a) (.string tx) (.int .i64 z) (.int .i64 m) (.slice o1 k1 c1) (.slice o2 k2 c2) (.slice o3 k3 c3) (.int .i64 0) (.int .i64 (-1)) (.int .i64 (-1))) (.pointer (some ⟨k, 0, none⟩)) x :=
  ⟨_, a, tx, z, m, o1, k1, c1, o2, k2, c2, o3, k3, c3, rfl, h, by simp [World.setCell]; exact hk, put10_box hb _ _ _ _ _ _ _ _ _ _, put10_nod hn (fun b hb => ⟨by omega, trivial⟩) _ _ _ _ _ _ _ _ _ _⟩
theorem num_size {a : Nat} (h : a ≤ 1000000000000) : (⟨(decDigits a).toArray⟩ : ByteArray).size ≤ 13 := by
  rw [size_arr]; exact dec_len a 13 (by omega) (by decide)
theorem few_pair (P Q : ByteArray) (a b c : Nat) : Few (.bin Q 0 [] (.bin P 0 [] (.num a) (.num b)) (.num c)) ∧ Few (.bin P 0 [] (.num a) (.bin Q 0 [] (.num b) (.num c))) := by
  simp [Few]
theorem left_right (P Q : ByteArray) (a b c : Nat) : decide (Ex.bin Q 0 [] (.bin P 0 [] (.num a) (.num b)) (.num c) = Ex.bin P 0 [] (.num a) (.bin Q 0 [] (.num b) (.num c))) = false := by
  simp

set_option maxHeartbeats 8000000 in
set_option maxRecDepth 100000 in
theorem chains_main (a b c : Nat) (ha : (a : Int) ≤ 1000000000000) (hb : (b : Int) ≤ 1000000000000) (hc : (c : Int) ≤ 1000000000000) (p q : Int) (w : World) (h : Env w) :
    Calls Tryz.prog 5 #[.int .i64 a, .int .i64 b, .int .i64 c, .int .i64 p, .int .i64 q] w fun e w' => e = .returned (.bool true) ∧ Below w.heap.size w w' := by
  have cA := Lib.hid (fun W (hb : Below w.heap.size w W) => alive_any W (h.below hb))
  obtain ⟨rp, P, hp1, hp2, hp3, hP, hp4, hp5⟩ := turn11 p
  obtain ⟨rq, Q, hq1, hq2, hq3, hQ, hq4, hq5⟩ := turn11 q
  obtain ⟨SP, LP, mP, zP, vP, oP, lP⟩ := ops_at P hP
  obtain ⟨SQ, LQ, mQ, zQ, vQ, oQ, lQ⟩ := ops_at Q hQ
  obtain ⟨R1, R2, R3⟩ := chains_l a b c (by omega) (by omega) (by omega) SP SQ mP mQ
  have ya := num_size (a := a) (by omega)
  have yb := num_size (a := b) (by omega)
  have yc := num_size (a := c) (by omega)
  obtain ⟨x, hx⟩ : ∃ x : ByteArray, (⟨(decDigits a).toArray⟩ : ByteArray) = x := ⟨_, rfl⟩
  obtain ⟨y, hy⟩ : ∃ x : ByteArray, (⟨(decDigits b).toArray⟩ : ByteArray) = x := ⟨_, rfl⟩
  obtain ⟨z, hz⟩ : ∃ x : ByteArray, (⟨(decDigits c).toArray⟩ : ByteArray) = x := ⟨_, rfl⟩
  have D1 := Lib.hid (fun W => rdigits_any a (by omega) W)
  have D2 := Lib.hid (fun W => rdigits_any b (by omega) W)
  have D3 := Lib.hid (fun W => rdigits_any c (by omega) W)
  rw [hx] at D1 ya
  rw [hy] at D2 yb
  rw [hz] at D3 yc
  have hx2 : x.data.toList = decDigits a := by rw [← hx]
  have hy2 : y.data.toList = decDigits b := by rw [← hy]
  have hz2 : z.data.toList = decDigits c := by rw [← hz]
  have C1 := Lib.hid (fun W (hb : Below w.heap.size w W) => read_is (x ++ SP ++ y ++ ⟨#[32]⟩ ++ SQ ++ z) (by simp only [ByteArray.size_append]; show x.size + SP.size + y.size + 1 + SQ.size + z.size ≤ 600; omega) _ (by
    rw [← R1]; congr 1; simp [hx2, hy2, hz2]) 0 rfl W (h.below hb))
  have C2 := Lib.hid (fun W (hb : Below w.heap.size w W) => read_is (⟨#[40]⟩ ++ x ++ SP ++ y ++ ⟨#[41]⟩ ++ SQ ++ z) (by simp only [ByteArray.size_append]; show 1 + x.size + SP.size + y.size + 1 + SQ.size + z.size ≤ 600; omega) _ (by
    rw [← R2]; congr 1; simp [hx2, hy2, hz2]) 0 rfl W (h.below hb))
  have C3 := Lib.hid (fun W (hb : Below w.heap.size w W) => read_is (x ++ SP ++ ⟨#[40]⟩ ++ y ++ SQ ++ z ++ ⟨#[41]⟩) (by simp only [ByteArray.size_append]; show x.size + SP.size + 1 + y.size + SQ.size + z.size + 1 ≤ 600; omega) _ (by
    rw [← R3]; congr 1; simp [hx2, hy2, hz2]) 0 rfl W (h.below hb))
  dsimp only at C1 C2 C3
  have HLV := Lib.hid (And.intro vP vQ)
  obtain ⟨N, hN⟩ : ∃ N, (if levelS SP.data.toList < levelS SQ.data.toList then Ex.bin SP 0 [] (.num a) (.bin SQ 0 [] (.num b) (.num c)) else Ex.bin SQ 0 [] (.bin SP 0 [] (.num a) (.num b)) (.num c)) = N := ⟨_, rfl⟩
  rw [hN] at C1
  have HNN := Lib.hid hN
  obtain ⟨F1, F2⟩ := few_pair SP SQ a b c
  have hLR := left_right SP SQ a b c
  obtain ⟨X1, hX1⟩ : ∃ X, Ex.bin SQ 0 [] (.bin SP 0 [] (.num a) (.num b)) (.num c) = X := ⟨_, rfl⟩
  obtain ⟨X2, hX2⟩ : ∃ X, Ex.bin SP 0 [] (.num a) (.bin SQ 0 [] (.num b) (.num c)) = X := ⟨_, rfl⟩
  rw [hX1] at C2 F1 hLR HNN
  rw [hX2] at C3 F2 hLR HNN
  have HF := Lib.hid (And.intro F1 (And.intro F2 hLR))
  have iP0 : (0 : Int) ≤ (P : Int) := by omega
  have iP1 : (P : Int) < 11 := by omega
  have iQ0 : (0 : Int) ≤ (Q : Int) := by omega
  have iQ1 : (Q : Int) < 11 := by omega
  clear R1 R2 R3 hx hy hz hx2 hy2 hz2 vP vQ hN mP mQ hX1 hX2 F1 F2 hLR h hP hQ
  obtain ⟨a1, ha1⟩ : ∃ t : ByteArray, x ++ SP = t := ⟨_, rfl⟩
  have sa1 : a1.size = x.size + SP.size := by rw [← ha1, ByteArray.size_append]
  obtain ⟨a2, ha2⟩ : ∃ t : ByteArray, a1 ++ y = t := ⟨_, rfl⟩
  have sa2 : a2.size = a1.size + y.size := by rw [← ha2, ByteArray.size_append]
  obtain ⟨a3, ha3⟩ : ∃ t : ByteArray, a2 ++ (⟨#[32]⟩ : ByteArray) = t := ⟨_, rfl⟩
  have sa3 : a3.size = a2.size + (⟨#[32]⟩ : ByteArray).size := by rw [← ha3, ByteArray.size_append]
  obtain ⟨a4, ha4⟩ : ∃ t : ByteArray, a3 ++ SQ = t := ⟨_, rfl⟩
  have sa4 : a4.size = a3.size + SQ.size := by rw [← ha4, ByteArray.size_append]
  obtain ⟨a5, ha5⟩ : ∃ t : ByteArray, a4 ++ z = t := ⟨_, rfl⟩
  have sa5 : a5.size = a4.size + z.size := by rw [← ha5, ByteArray.size_append]
  obtain ⟨d1, hd1⟩ : ∃ t : ByteArray, (⟨#[40]⟩ : ByteArray) ++ x = t := ⟨_, rfl⟩
  have sd1 : d1.size = (⟨#[40]⟩ : ByteArray).size + x.size := by rw [← hd1, ByteArray.size_append]
  obtain ⟨d2, hd2⟩ : ∃ t : ByteArray, d1 ++ SP = t := ⟨_, rfl⟩
  have sd2 : d2.size = d1.size + SP.size := by rw [← hd2, ByteArray.size_append]
  obtain ⟨d3, hd3⟩ : ∃ t : ByteArray, d2 ++ y = t := ⟨_, rfl⟩
  have sd3 : d3.size = d2.size + y.size := by rw [← hd3, ByteArray.size_append]
  obtain ⟨d4, hd4⟩ : ∃ t : ByteArray, d3 ++ (⟨#[41]⟩ : ByteArray) = t := ⟨_, rfl⟩
  have sd4 : d4.size = d3.size + (⟨#[41]⟩ : ByteArray).size := by rw [← hd4, ByteArray.size_append]
  obtain ⟨d5, hd5⟩ : ∃ t : ByteArray, d4 ++ SQ = t := ⟨_, rfl⟩
  have sd5 : d5.size = d4.size + SQ.size := by rw [← hd5, ByteArray.size_append]
  obtain ⟨d6, hd6⟩ : ∃ t : ByteArray, d5 ++ z = t := ⟨_, rfl⟩
  have sd6 : d6.size = d5.size + z.size := by rw [← hd6, ByteArray.size_append]
  obtain ⟨g1, hg1⟩ : ∃ t : ByteArray, a1 ++ (⟨#[40]⟩ : ByteArray) = t := ⟨_, rfl⟩
  have sg1 : g1.size = a1.size + (⟨#[40]⟩ : ByteArray).size := by rw [← hg1, ByteArray.size_append]
  obtain ⟨g2, hg2⟩ : ∃ t : ByteArray, g1 ++ y = t := ⟨_, rfl⟩
  have sg2 : g2.size = g1.size + y.size := by rw [← hg2, ByteArray.size_append]
  obtain ⟨g3, hg3⟩ : ∃ t : ByteArray, g2 ++ SQ = t := ⟨_, rfl⟩
  have sg3 : g3.size = g2.size + SQ.size := by rw [← hg3, ByteArray.size_append]
  obtain ⟨g4, hg4⟩ : ∃ t : ByteArray, g3 ++ z = t := ⟨_, rfl⟩
  have sg4 : g4.size = g3.size + z.size := by rw [← hg4, ByteArray.size_append]
  obtain ⟨g5, hg5⟩ : ∃ t : ByteArray, g4 ++ (⟨#[41]⟩ : ByteArray) = t := ⟨_, rfl⟩
  have sg5 : g5.size = g4.size + (⟨#[41]⟩ : ByteArray).size := by rw [← hg5, ByteArray.size_append]
  have s32 : (⟨#[32]⟩ : ByteArray).size = 1 := rfl
  have s40 : (⟨#[40]⟩ : ByteArray).size = 1 := rfl
  have s41 : (⟨#[41]⟩ : ByteArray).size = 1 := rfl
  rw [ha1, ha2, ha3, ha4, ha5] at C1
  rw [hd1, hd2, hd3, hd4, hd5, hd6] at C2
  rw [ha1, hg1, hg2, hg3, hg4, hg5] at C3
  have na1 : ¬ (x.size + SP.size > 9223372036854775807) := by omega
  have na2 : ¬ (a1.size + y.size > 9223372036854775807) := by omega
  have ma3 : ¬ (a2.size + 1 > 9223372036854775807) := by omega
  have na3 : ¬ (a2.size + (⟨#[32]⟩ : ByteArray).size > 9223372036854775807) := by omega
  have na4 : ¬ (a3.size + SQ.size > 9223372036854775807) := by omega
  have na5 : ¬ (a4.size + z.size > 9223372036854775807) := by omega
  have md1 : ¬ (1 + x.size > 9223372036854775807) := by omega
  have nd1 : ¬ ((⟨#[40]⟩ : ByteArray).size + x.size > 9223372036854775807) := by omega
  have nd2 : ¬ (d1.size + SP.size > 9223372036854775807) := by omega
  have nd3 : ¬ (d2.size + y.size > 9223372036854775807) := by omega
  have md4 : ¬ (d3.size + 1 > 9223372036854775807) := by omega
  have nd4 : ¬ (d3.size + (⟨#[41]⟩ : ByteArray).size > 9223372036854775807) := by omega
  have nd5 : ¬ (d4.size + SQ.size > 9223372036854775807) := by omega
  have nd6 : ¬ (d5.size + z.size > 9223372036854775807) := by omega
  have mg1 : ¬ (a1.size + 1 > 9223372036854775807) := by omega
  have ng1 : ¬ (a1.size + (⟨#[40]⟩ : ByteArray).size > 9223372036854775807) := by omega
  have ng2 : ¬ (g1.size + y.size > 9223372036854775807) := by omega
  have ng3 : ¬ (g2.size + SQ.size > 9223372036854775807) := by omega
  have ng4 : ¬ (g3.size + z.size > 9223372036854775807) := by omega
  have mg5 : ¬ (g4.size + 1 > 9223372036854775807) := by omega
  have ng5 : ¬ (g4.size + (⟨#[41]⟩ : ByteArray).size > 9223372036854775807) := by omega
  clear sa1 sa2 sa3 sa4 sa5 sd1 sd2 sd3 sd4 sd5 sd6 sg1 sg2 sg3 sg4 sg5 s32 s40 s41
  have nA : ¬ (a : Int) < 0 := by omega
  have nB : ¬ (b : Int) < 0 := by omega
  have nC : ¬ (c : Int) < 0 := by omega
  go_enter Tryz.func5, Tryz.ntmps5
  go_wp2_with fail
  refine (cA.out _ (Below.refl _ _)).mono ?_
  rintro e w1 ⟨rfl, b1⟩
  have B1 := Lib.hid b1
  clear b1
  have HRD := Lib.hid (fun W (h : Below (w1.heap.size + 2) ((w1.alloc (Obj.cells opsCells 9)).alloc (Obj.cells lvCells 3)) W) => (show W.cell? ⟨w1.heap.size, P, none⟩ = some (.string SP) ∧ W.cell? ⟨w1.heap.size, Q, none⟩ = some (.string SQ) ∧ W.cell? ⟨w1.heap.size + 1, P, none⟩ = some (.int .i64 LP) ∧ W.cell? ⟨w1.heap.size + 1, Q, none⟩ = some (.int .i64 LQ) from by
    have e1 : W.heap[w1.heap.size]? = some (.cells opsCells 9 (0, 0)) := (h.block _ (by omega)).trans ((Below.heap_alloc _ _ _ (by simp)).trans Array.getElem?_push_size)
    have e2 : W.heap[w1.heap.size + 1]? = some (.cells lvCells 3 (0, 0)) := (h.block _ (by omega)).trans (by
      have hs : (w1.alloc (Obj.cells opsCells 9)).heap.size = w1.heap.size + 1 := by simp
      rw [← hs]; exact Array.getElem?_push_size)
    refine ⟨?_, ?_, ?_, ?_⟩ <;> simp only [World.cell?, e1, e2] <;> assumption))
  clear oP oQ lP lQ
  have HBX := Lib.hid (show Below w.heap.size w ((w1.alloc (Obj.cells opsCells 9)).alloc (Obj.cells lvCells 3)) from (B1.out.alloc B1.out.size _).alloc (by have := B1.out.size; simp; omega) _)
  have HSX := Lib.hid (show ((w1.alloc (Obj.cells opsCells 9)).alloc (Obj.cells lvCells 3)).heap.size = w1.heap.size + 2 by simp)
  go_wp2_with fail
  refine (D1.out _).mono ?_
  rintro e w2 ⟨rfl, b2⟩
  have HX2 := Lib.hid ((Below.refl (w1.heap.size + 2) _).trans (b2.mono (by simp)))
  have HB2 := Lib.hid (HBX.out.trans (b2.mono HBX.out.size))
  clear b2
  go_wp2_with fail
  refine (D2.out _).mono ?_
  rintro e w3 ⟨rfl, b3⟩
  have HX3 := Lib.hid (HX2.out.trans (b3.mono (by have := HX2.out.size; rw [HSX.out] at this; exact this)))
  have HB3 := Lib.hid (HB2.out.trans (b3.mono HB2.out.size))
  clear b3
  go_wp2_with fail
  refine (D3.out _).mono ?_
  rintro e w4 ⟨rfl, b4⟩
  have HX4 := Lib.hid (HX3.out.trans (b4.mono (by have := HX3.out.size; rw [HSX.out] at this; exact this)))
  have HB4 := Lib.hid (HB3.out.trans (b4.mono HB3.out.size))
  clear b4
  have HZ4 := Lib.hid (show w1.heap.size + 2 ≤ w4.heap.size by have := HX4.out.size; rw [HSX.out] at this; exact this)
  have HKS := Lib.hid (fun W (h : Below (w1.heap.size + 2) ((w1.alloc (Obj.cells opsCells 9)).alloc (Obj.cells lvCells 3)) W) => (show W.cell? ⟨w1.heap.size, P, none⟩ = some (.string SP) ∧ W.cell? ⟨w1.heap.size, Q, none⟩ = some (.string SQ) from ⟨(HRD.out W h).1, (HRD.out W h).2.1⟩))
  obtain ⟨f0, f1, -, -⟩ := HRD.out w4 HX4.out
  go_wp2_with fail
  have HCA1 := Lib.hid ((C1.out ((w4.alloc (Obj.cells #[.string ⟨#[]⟩, .string ⟨#[]⟩, .int .i64 0, .int .i64 0, .slice none 0 0, .slice none 0 0, .slice none 0 0, .int .i64 0, .int .i64 0, .int .i64 0] 29)).drew) (below_box HB4.out _).drew).mono (R' := fun e w' => (∃ (a tx : ByteArray) (z m : Int) (o1 : Option Addr) (k1 c1 : Nat) (o2 : Option Addr) (k2 c2 : Nat) (o3 : Option Addr) (k3 c3 : Nat),
      e = .returned (.tuple #[.agg #[.string a, .string tx, .int .i64 z, .int .i64 m, .slice o1 k1 c1, .slice o2 k2 c2, .slice o3 k3 c3, .int .i64 0, .int .i64 (-1), .int .i64 (-1)], .int .i64 0]) ∧
      Hid (Nod w' (fun b => w4.heap.size < b) [.string a, .string tx, .int .i64 z, .int .i64 m, .slice o1 k1 c1, .slice o2 k2 c2, .slice o3 k3 c3] N)) ∧ Hid (Below w4.heap.size w4 w') ∧ Box10 w' w4.heap.size (.string ⟨#[]⟩) (.string ⟨#[]⟩) (.int .i64 0) (.int .i64 0) (.slice none 0 0) (.slice none 0 0) (.slice none 0 0) (.int .i64 0) (.int .i64 0) (.int .i64 0)) (fun e w' q => ⟨by
        obtain ⟨⟨a, tx, z, m, o1, k1, c1, o2, k2, c2, o3, k3, c3, he, hn⟩, hb⟩ := q
        exact ⟨a, tx, z, m, o1, k1, c1, o2, k2, c2, o3, k3, c3, he, hn.keep fun b hb _ => ⟨rfl, by have h2 := hb; simp at h2; omega⟩⟩, ((Below.refl _ _).alloc (Nat.le_refl _) _).drew.trans (q.2.mono (by simp)), (q.2.block _ (by simp)).trans (box10_new w4 (.string ⟨#[]⟩) (.string ⟨#[]⟩) (.int .i64 0) (.int .i64 0) (.slice none 0 0) (.slice none 0 0) (.slice none 0 0) (.int .i64 0) (.int .i64 0) (.int .i64 0))⟩))
  have HCB1 := Lib.hid ((C1.out w4.drew HB4.out.drew).mono (R' := fun e w' => (∃ (a tx : ByteArray) (z m : Int) (o1 : Option Addr) (k1 c1 : Nat) (o2 : Option Addr) (k2 c2 : Nat) (o3 : Option Addr) (k3 c3 : Nat),
      e = .returned (.tuple #[.agg #[.string a, .string tx, .int .i64 z, .int .i64 m, .slice o1 k1 c1, .slice o2 k2 c2, .slice o3 k3 c3, .int .i64 0, .int .i64 (-1), .int .i64 (-1)], .int .i64 0]) ∧
      Hid (Nod w' (fun _ => True) [.string a, .string tx, .int .i64 z, .int .i64 m, .slice o1 k1 c1, .slice o2 k2 c2, .slice o3 k3 c3] N)) ∧ Hid (Below w4.heap.size w4 w')) (fun e w' q => ⟨by
        obtain ⟨⟨a, tx, z, m, o1, k1, c1, o2, k2, c2, o3, k3, c3, he, hn⟩, hb⟩ := q
        exact ⟨a, tx, z, m, o1, k1, c1, o2, k2, c2, o3, k3, c3, he, hn.keep fun b hb _ => ⟨rfl, trivial⟩⟩, (Below.refl _ _).drew.trans q.2⟩))
  go_cut [16, 17] from 66 to 84 (fun sa1 sb1 wx1 => sb1 = .int .i64 0 ∧ Hid (QAt w1 wx1 sa1 N) ∧ Hid (Below w4.heap.size w4 wx1))
  case first =>
    go_region_held3 (fun w' => w'.cell? ⟨w1.heap.size, P, none⟩ = some (.string SP) ∧ w'.cell? ⟨w1.heap.size, Q, none⟩ = some (.string SQ)) (first | with_reducible exact ⟨f0, f1⟩ | with_reducible exact HKS.out _ HX4.out.drew | with_reducible exact HKS.out _ (HX4.out.alloc HZ4.out _) | with_reducible exact HKS.out _ (HX4.out.alloc HZ4.out _).drew | with_reducible exact HKS.out _ (HX4.out.drew.alloc HZ4.out _) | with_reducible exact HKS.out _ (x9.out.trans y9.out) | with_reducible exact HKS.out _ ((x9.out.trans y9.out).alloc z9.out _) | with_reducible exact HKS.out _ (put10_below (x9.out.trans y9.out) HZ4.out _ _ _ _ _ _ _ _ _ _)) (first
      | (go_at_call 11; go_fit (HCA1.out); rintro e w9 ⟨⟨a, tx, z, m, o1, k1, c1, o2, k2, c2, o3, k3, c3, rfl, hn⟩, b9, h9⟩; have x9 := HX4; have y9 := Lib.hid (b9.out.mono HZ4.out); have z9 := Lib.hid (Nat.le_trans HZ4.out b9.out.size); have hh9 := Lib.hid h9; obtain ⟨⟨r0, r1, r2, r3, r4, r5, r6, r7, r8, r9⟩, u0, u1, u2, u3, u4, u5, u6, u7, u8, u9⟩ := Box10.reads h9)
      | (go_at_call 11; go_fit (HCB1.out); rintro e w9 ⟨⟨a, tx, z, m, o1, k1, c1, o2, k2, c2, o3, k3, c3, rfl, hn⟩, b9⟩; have x9 := HX4; have y9 := Lib.hid (b9.out.mono HZ4.out); have z9 := Lib.hid (Nat.le_trans HZ4.out b9.out.size)))
    all_goals go_wp2_with fail
    all_goals go_meet
    · exact ⟨rfl, qat_new (by have := z9.out; omega) hn.out, b9.out.alloc b9.out.size _⟩
    · exact ⟨rfl, qat_put (by have := HZ4.out; omega) hh9.out (Array.getElem?_eq_some_iff.1 hh9.out).1 hn.out, put10_below b9.out (Nat.le_refl _) _ _ _ _ _ _ _ _ _ _⟩
  case rest =>
  rename World => wx1
  obtain ⟨rfl, hq, hb⟩ := hcut
  obtain ⟨kk1, ca1, ctx1, cz1, cm1, co11, ck11, cc11, co21, ck21, cc21, co31, ck31, cc31, rfl, hq1, hq2, hq3, hq4⟩ := hq.out
  have HX44 := Lib.hid (HX4.out.trans (hb.out.mono HZ4.out))
  have HB44 := Lib.hid (HB4.out.trans (hb.out.mono HB4.out.size))
  have HZ44 := Lib.hid (Nat.le_trans HZ4.out hb.out.size)
  have HQ1 := Lib.hid (fun W (h : Below wx1.heap.size wx1 W) => (show Box10 W kk1 (.string ca1) (.string ctx1) (.int .i64 cz1) (.int .i64 cm1) (.slice co11 ck11 cc11) (.slice co21 ck21 cc21) (.slice co31 ck31 cc31) (.int .i64 0) (.int .i64 (-1)) (.int .i64 (-1)) ∧ Nod W (fun _ => True) [.string ca1, .string ctx1, .int .i64 cz1, .int .i64 cm1, .slice co11 ck11 cc11, .slice co21 ck21 cc21, .slice co31 ck31 cc31] N from ⟨(h.block _ hq2).trans hq3, hq4.under h⟩))
  clear hq hq1 hq2 hq3 hq4 hb HCA1 HCB1 f0 f1
  have HXx1 := HX44
  have HBx1 := HB44
  have HZx1 := HZ44
  obtain ⟨f0, f1, -, -⟩ := HRD.out wx1 HXx1.out
  go_wp2_with fail
  have HCA2 := Lib.hid ((C2.out ((wx1.alloc (Obj.cells #[.string ⟨#[]⟩, .string ⟨#[]⟩, .int .i64 0, .int .i64 0, .slice none 0 0, .slice none 0 0, .slice none 0 0, .int .i64 0, .int .i64 0, .int .i64 0] 29)).drew) (below_box HBx1.out _).drew).mono (R' := fun e w' => (∃ (a tx : ByteArray) (z m : Int) (o1 : Option Addr) (k1 c1 : Nat) (o2 : Option Addr) (k2 c2 : Nat) (o3 : Option Addr) (k3 c3 : Nat),
      e = .returned (.tuple #[.agg #[.string a, .string tx, .int .i64 z, .int .i64 m, .slice o1 k1 c1, .slice o2 k2 c2, .slice o3 k3 c3, .int .i64 0, .int .i64 (-1), .int .i64 (-1)], .int .i64 0]) ∧
      Hid (Nod w' (fun b => wx1.heap.size < b) [.string a, .string tx, .int .i64 z, .int .i64 m, .slice o1 k1 c1, .slice o2 k2 c2, .slice o3 k3 c3] X1)) ∧ Hid (Below wx1.heap.size wx1 w') ∧ Box10 w' wx1.heap.size (.string ⟨#[]⟩) (.string ⟨#[]⟩) (.int .i64 0) (.int .i64 0) (.slice none 0 0) (.slice none 0 0) (.slice none 0 0) (.int .i64 0) (.int .i64 0) (.int .i64 0)) (fun e w' q => ⟨by
        obtain ⟨⟨a, tx, z, m, o1, k1, c1, o2, k2, c2, o3, k3, c3, he, hn⟩, hb⟩ := q
        exact ⟨a, tx, z, m, o1, k1, c1, o2, k2, c2, o3, k3, c3, he, hn.keep fun b hb _ => ⟨rfl, by have h2 := hb; simp at h2; omega⟩⟩, ((Below.refl _ _).alloc (Nat.le_refl _) _).drew.trans (q.2.mono (by simp)), (q.2.block _ (by simp)).trans (box10_new wx1 (.string ⟨#[]⟩) (.string ⟨#[]⟩) (.int .i64 0) (.int .i64 0) (.slice none 0 0) (.slice none 0 0) (.slice none 0 0) (.int .i64 0) (.int .i64 0) (.int .i64 0))⟩))
  have HCB2 := Lib.hid ((C2.out wx1.drew HBx1.out.drew).mono (R' := fun e w' => (∃ (a tx : ByteArray) (z m : Int) (o1 : Option Addr) (k1 c1 : Nat) (o2 : Option Addr) (k2 c2 : Nat) (o3 : Option Addr) (k3 c3 : Nat),
      e = .returned (.tuple #[.agg #[.string a, .string tx, .int .i64 z, .int .i64 m, .slice o1 k1 c1, .slice o2 k2 c2, .slice o3 k3 c3, .int .i64 0, .int .i64 (-1), .int .i64 (-1)], .int .i64 0]) ∧
      Hid (Nod w' (fun _ => True) [.string a, .string tx, .int .i64 z, .int .i64 m, .slice o1 k1 c1, .slice o2 k2 c2, .slice o3 k3 c3] X1)) ∧ Hid (Below wx1.heap.size wx1 w')) (fun e w' q => ⟨by
        obtain ⟨⟨a, tx, z, m, o1, k1, c1, o2, k2, c2, o3, k3, c3, he, hn⟩, hb⟩ := q
        exact ⟨a, tx, z, m, o1, k1, c1, o2, k2, c2, o3, k3, c3, he, hn.keep fun b hb _ => ⟨rfl, trivial⟩⟩, (Below.refl _ _).drew.trans q.2⟩))
  go_cut [18, 19] from 86 to 105 (fun sa2 sb2 wx2 => sb2 = .int .i64 0 ∧ Hid (QAt w1 wx2 sa2 X1) ∧ Hid (Below wx1.heap.size wx1 wx2))
  case first =>
    go_region_held3 (fun w' => w'.cell? ⟨w1.heap.size, P, none⟩ = some (.string SP) ∧ w'.cell? ⟨w1.heap.size, Q, none⟩ = some (.string SQ)) (first | with_reducible exact ⟨f0, f1⟩ | with_reducible exact HKS.out _ HXx1.out.drew | with_reducible exact HKS.out _ (HXx1.out.alloc HZx1.out _) | with_reducible exact HKS.out _ (HXx1.out.alloc HZx1.out _).drew | with_reducible exact HKS.out _ (HXx1.out.drew.alloc HZx1.out _) | with_reducible exact HKS.out _ (x9.out.trans y9.out) | with_reducible exact HKS.out _ ((x9.out.trans y9.out).alloc z9.out _) | with_reducible exact HKS.out _ (put10_below (x9.out.trans y9.out) HZx1.out _ _ _ _ _ _ _ _ _ _)) (first
      | (go_at_call 11; go_fit (HCA2.out); rintro e w9 ⟨⟨a, tx, z, m, o1, k1, c1, o2, k2, c2, o3, k3, c3, rfl, hn⟩, b9, h9⟩; have x9 := HXx1; have y9 := Lib.hid (b9.out.mono HZx1.out); have z9 := Lib.hid (Nat.le_trans HZx1.out b9.out.size); have hh9 := Lib.hid h9; obtain ⟨⟨r0, r1, r2, r3, r4, r5, r6, r7, r8, r9⟩, u0, u1, u2, u3, u4, u5, u6, u7, u8, u9⟩ := Box10.reads h9)
      | (go_at_call 11; go_fit (HCB2.out); rintro e w9 ⟨⟨a, tx, z, m, o1, k1, c1, o2, k2, c2, o3, k3, c3, rfl, hn⟩, b9⟩; have x9 := HXx1; have y9 := Lib.hid (b9.out.mono HZx1.out); have z9 := Lib.hid (Nat.le_trans HZx1.out b9.out.size)))
    all_goals go_wp2_with fail
    all_goals go_meet
    · exact ⟨rfl, qat_new (by have := z9.out; omega) hn.out, b9.out.alloc b9.out.size _⟩
    · exact ⟨rfl, qat_put (by have := HZx1.out; omega) hh9.out (Array.getElem?_eq_some_iff.1 hh9.out).1 hn.out, put10_below b9.out (Nat.le_refl _) _ _ _ _ _ _ _ _ _ _⟩
  case rest =>
  rename World => wx2
  obtain ⟨rfl, hq, hb⟩ := hcut
  obtain ⟨kk2, ca2, ctx2, cz2, cm2, co12, ck12, cc12, co22, ck22, cc22, co32, ck32, cc32, rfl, hq1, hq2, hq3, hq4⟩ := hq.out
  have HXq := Lib.hid (HXx1.out.trans (hb.out.mono HZx1.out))
  have HBq := Lib.hid (HBx1.out.trans (hb.out.mono HBx1.out.size))
  have HZq := Lib.hid (Nat.le_trans HZx1.out hb.out.size)
  have HQ2 := Lib.hid (fun W (h : Below wx2.heap.size wx2 W) => (show Box10 W kk2 (.string ca2) (.string ctx2) (.int .i64 cz2) (.int .i64 cm2) (.slice co12 ck12 cc12) (.slice co22 ck22 cc22) (.slice co32 ck32 cc32) (.int .i64 0) (.int .i64 (-1)) (.int .i64 (-1)) ∧ Nod W (fun _ => True) [.string ca2, .string ctx2, .int .i64 cz2, .int .i64 cm2, .slice co12 ck12 cc12, .slice co22 ck22 cc22, .slice co32 ck32 cc32] X1 from ⟨(h.block _ hq2).trans hq3, hq4.under h⟩))
  have HD12 := hb
  clear hq hq1 hq2 hq3 hq4 hb HCA2 HCB2 f0 f1
  have HXx2 := HXq
  have HBx2 := HBq
  have HZx2 := HZq
  obtain ⟨f0, f1, -, -⟩ := HRD.out wx2 HXx2.out
  go_wp2_with fail
  have HCA3 := Lib.hid ((C3.out ((wx2.alloc (Obj.cells #[.string ⟨#[]⟩, .string ⟨#[]⟩, .int .i64 0, .int .i64 0, .slice none 0 0, .slice none 0 0, .slice none 0 0, .int .i64 0, .int .i64 0, .int .i64 0] 29)).drew) (below_box HBx2.out _).drew).mono (R' := fun e w' => (∃ (a tx : ByteArray) (z m : Int) (o1 : Option Addr) (k1 c1 : Nat) (o2 : Option Addr) (k2 c2 : Nat) (o3 : Option Addr) (k3 c3 : Nat),
      e = .returned (.tuple #[.agg #[.string a, .string tx, .int .i64 z, .int .i64 m, .slice o1 k1 c1, .slice o2 k2 c2, .slice o3 k3 c3, .int .i64 0, .int .i64 (-1), .int .i64 (-1)], .int .i64 0]) ∧
      Hid (Nod w' (fun b => wx2.heap.size < b) [.string a, .string tx, .int .i64 z, .int .i64 m, .slice o1 k1 c1, .slice o2 k2 c2, .slice o3 k3 c3] X2)) ∧ Hid (Below wx2.heap.size wx2 w') ∧ Box10 w' wx2.heap.size (.string ⟨#[]⟩) (.string ⟨#[]⟩) (.int .i64 0) (.int .i64 0) (.slice none 0 0) (.slice none 0 0) (.slice none 0 0) (.int .i64 0) (.int .i64 0) (.int .i64 0)) (fun e w' q => ⟨by
        obtain ⟨⟨a, tx, z, m, o1, k1, c1, o2, k2, c2, o3, k3, c3, he, hn⟩, hb⟩ := q
        exact ⟨a, tx, z, m, o1, k1, c1, o2, k2, c2, o3, k3, c3, he, hn.keep fun b hb _ => ⟨rfl, by have h2 := hb; simp at h2; omega⟩⟩, ((Below.refl _ _).alloc (Nat.le_refl _) _).drew.trans (q.2.mono (by simp)), (q.2.block _ (by simp)).trans (box10_new wx2 (.string ⟨#[]⟩) (.string ⟨#[]⟩) (.int .i64 0) (.int .i64 0) (.slice none 0 0) (.slice none 0 0) (.slice none 0 0) (.int .i64 0) (.int .i64 0) (.int .i64 0))⟩))
  have HCB3 := Lib.hid ((C3.out wx2.drew HBx2.out.drew).mono (R' := fun e w' => (∃ (a tx : ByteArray) (z m : Int) (o1 : Option Addr) (k1 c1 : Nat) (o2 : Option Addr) (k2 c2 : Nat) (o3 : Option Addr) (k3 c3 : Nat),
      e = .returned (.tuple #[.agg #[.string a, .string tx, .int .i64 z, .int .i64 m, .slice o1 k1 c1, .slice o2 k2 c2, .slice o3 k3 c3, .int .i64 0, .int .i64 (-1), .int .i64 (-1)], .int .i64 0]) ∧
      Hid (Nod w' (fun _ => True) [.string a, .string tx, .int .i64 z, .int .i64 m, .slice o1 k1 c1, .slice o2 k2 c2, .slice o3 k3 c3] X2)) ∧ Hid (Below wx2.heap.size wx2 w')) (fun e w' q => ⟨by
        obtain ⟨⟨a, tx, z, m, o1, k1, c1, o2, k2, c2, o3, k3, c3, he, hn⟩, hb⟩ := q
        exact ⟨a, tx, z, m, o1, k1, c1, o2, k2, c2, o3, k3, c3, he, hn.keep fun b hb _ => ⟨rfl, trivial⟩⟩, (Below.refl _ _).drew.trans q.2⟩))
  go_cut [20, 21] from 107 to 126 (fun sa3 sb3 wx3 => sb3 = .int .i64 0 ∧ Hid (QAt w1 wx3 sa3 X2) ∧ Hid (Below wx2.heap.size wx2 wx3))
  case first =>
    go_region_held3 (fun w' => w'.cell? ⟨w1.heap.size, P, none⟩ = some (.string SP) ∧ w'.cell? ⟨w1.heap.size, Q, none⟩ = some (.string SQ)) (first | with_reducible exact ⟨f0, f1⟩ | with_reducible exact HKS.out _ HXx2.out.drew | with_reducible exact HKS.out _ (HXx2.out.alloc HZx2.out _) | with_reducible exact HKS.out _ (HXx2.out.alloc HZx2.out _).drew | with_reducible exact HKS.out _ (HXx2.out.drew.alloc HZx2.out _) | with_reducible exact HKS.out _ (x9.out.trans y9.out) | with_reducible exact HKS.out _ ((x9.out.trans y9.out).alloc z9.out _) | with_reducible exact HKS.out _ (put10_below (x9.out.trans y9.out) HZx2.out _ _ _ _ _ _ _ _ _ _)) (first
      | (go_at_call 11; go_fit (HCA3.out); rintro e w9 ⟨⟨a, tx, z, m, o1, k1, c1, o2, k2, c2, o3, k3, c3, rfl, hn⟩, b9, h9⟩; have x9 := HXx2; have y9 := Lib.hid (b9.out.mono HZx2.out); have z9 := Lib.hid (Nat.le_trans HZx2.out b9.out.size); have hh9 := Lib.hid h9; obtain ⟨⟨r0, r1, r2, r3, r4, r5, r6, r7, r8, r9⟩, u0, u1, u2, u3, u4, u5, u6, u7, u8, u9⟩ := Box10.reads h9)
      | (go_at_call 11; go_fit (HCB3.out); rintro e w9 ⟨⟨a, tx, z, m, o1, k1, c1, o2, k2, c2, o3, k3, c3, rfl, hn⟩, b9⟩; have x9 := HXx2; have y9 := Lib.hid (b9.out.mono HZx2.out); have z9 := Lib.hid (Nat.le_trans HZx2.out b9.out.size)))
    all_goals go_wp2_with fail
    all_goals go_meet
    · exact ⟨rfl, qat_new (by have := z9.out; omega) hn.out, b9.out.alloc b9.out.size _⟩
    · exact ⟨rfl, qat_put (by have := HZx2.out; omega) hh9.out (Array.getElem?_eq_some_iff.1 hh9.out).1 hn.out, put10_below b9.out (Nat.le_refl _) _ _ _ _ _ _ _ _ _ _⟩
  case rest =>
  rename World => wx3
  obtain ⟨rfl, hq, hb⟩ := hcut
  obtain ⟨kk3, ca3, ctx3, cz3, cm3, co13, ck13, cc13, co23, ck23, cc23, co33, ck33, cc33, rfl, hq1, hq2, hq3, hq4⟩ := hq.out
  have HXr := Lib.hid (HXx2.out.trans (hb.out.mono HZx2.out))
  have HBr := Lib.hid (HBx2.out.trans (hb.out.mono HBx2.out.size))
  have HZr := Lib.hid (Nat.le_trans HZx2.out hb.out.size)
  have HQ3 := Lib.hid (fun W (h : Below wx3.heap.size wx3 W) => (show Box10 W kk3 (.string ca3) (.string ctx3) (.int .i64 cz3) (.int .i64 cm3) (.slice co13 ck13 cc13) (.slice co23 ck23 cc23) (.slice co33 ck33 cc33) (.int .i64 0) (.int .i64 (-1)) (.int .i64 (-1)) ∧ Nod W (fun _ => True) [.string ca3, .string ctx3, .int .i64 cz3, .int .i64 cm3, .slice co13 ck13 cc13, .slice co23 ck23 cc23, .slice co33 ck33 cc33] X2 from ⟨(h.block _ hq2).trans hq3, hq4.under h⟩))
  have HD23 := hb
  clear hq hq1 hq2 hq3 hq4 hb HCA3 HCB3 f0 f1
  have HD13 := Lib.hid (HD12.out.trans (HD23.out.mono HD12.out.size))
  obtain ⟨-, -, f2, f3⟩ := HRD.out wx3 HXr.out
  have HZ1 := Lib.hid HD13.out.size
  have HZ2 := Lib.hid HD23.out.size
  go_wp2_with fail
  go_quiet (fail)
  have hq0 : Below wx3.heap.size wx3 (wx3.drewN nq) := quietB ⟨nq, rfl⟩
  have HBq3 := Lib.hid (HBr.out.trans (hq0.mono HBr.out.size))
  have E1 := Lib.hid (HD13.out.trans (hq0.mono HZ1.out))
  have E2 := Lib.hid (HD23.out.trans (hq0.mono HZ2.out))
  have E3 := Lib.hid hq0
  clear hq0 f2 f3
  obtain ⟨⟨p0, p1, p2, p3, p4, p5, p6, p7, p8, p9⟩, -⟩ := (HQ1.out _ E1.out).1.reads
  obtain ⟨⟨q0, q1, q2, q3, q4, q5, q6, q7, q8, q9⟩, -⟩ := (HQ2.out _ E2.out).1.reads
  obtain ⟨⟨r0, r1, r2, r3, r4, r5, r6, r7, r8, r9⟩, -⟩ := (HQ3.out _ E3.out).1.reads
  by_cases hlt : LP < LQ
  · have hN : X2 = N := by
      have h1 := HNN.out
      have h2 := HLV.out
      rw [if_pos (by omega)] at h1; exact h1
    subst hN
    have HS1 := Lib.hid (lsame_any X2 X2 HF.out.2.1 true _ _ (wx3.drewN nq) ca1 ctx1 cz1 cm1 co11 ck11 cc11 co21 ck21 cc21 co31 ck31 cc31 0 (-1) (-1) ca3 ctx3 cz3 cm3 co13 ck13 cc13 co23 ck23 cc23 co33 ck33 cc33 0 (-1) (-1) (HQ1.out _ E1.out).2 (HQ3.out _ E3.out).2 (by simp))
    have HS2 := Lib.hid (fun W (h : Below (wx3.drewN nq).heap.size (wx3.drewN nq) W) => lsame_any X2 X1 HF.out.2.1 false _ _ W ca1 ctx1 cz1 cm1 co11 ck11 cc11 co21 ck21 cc21 co31 ck31 cc31 0 (-1) (-1) ca2 ctx2 cz2 cm2 co12 ck12 cc12 co22 ck22 cc22 co32 ck32 cc32 0 (-1) (-1) ((HQ1.out _ E1.out).2.under h) ((HQ2.out _ E2.out).2.under h) (by have h1 := of_decide_eq_false HF.out.2.2; simp; exact fun e => h1 e.symm))
    have hz1 : wx1.heap.size ≤ (wx3.drewN nq).heap.size := E1.out.size
    have hz2 : wx2.heap.size ≤ (wx3.drewN nq).heap.size := E2.out.size
    have hz3 : wx3.heap.size ≤ (wx3.drewN nq).heap.size := E3.out.size
    have HHZ := Lib.hid (And.intro hz1 (And.intro hz2 hz3))
    clear hz1 hz2 hz3
    go_wp2_with fail
    refine HS1.out.mono ?_
    rintro e w10 ⟨rfl, b10⟩
    have HB10 := Lib.hid (HBq3.out.trans (b10.mono HBq3.out.size))
    have G1 := Lib.hid (E1.out.trans (b10.mono HHZ.out.1))
    have G2 := Lib.hid (E2.out.trans (b10.mono HHZ.out.2.1))
    have G3 := Lib.hid (E3.out.trans (b10.mono HHZ.out.2.2))
    have HSS := Lib.hid (HS2.out w10 b10)
    clear p0 p1 p2 p3 p4 p5 p6 p7 p8 p9 q0 q1 q2 q3 q4 q5 q6 q7 q8 q9 r0 r1 r2 r3 r4 r5 r6 r7 r8 r9 b10
    obtain ⟨⟨p0, p1, p2, p3, p4, p5, p6, p7, p8, p9⟩, -⟩ := (HQ1.out _ G1.out).1.reads
    obtain ⟨⟨q0, q1, q2, q3, q4, q5, q6, q7, q8, q9⟩, -⟩ := (HQ2.out _ G2.out).1.reads
    obtain ⟨⟨r0, r1, r2, r3, r4, r5, r6, r7, r8, r9⟩, -⟩ := (HQ3.out _ G3.out).1.reads
    go_wp2_with fail
    refine HSS.out.mono ?_
    rintro e w11 ⟨rfl, b11⟩
    have HB11 := Lib.hid (HB10.out.trans (b11.mono HB10.out.size))
    clear b11
    go_wp2
    go_ret
    exact ⟨rfl, HB11.out⟩
  · have hN : X1 = N := by
      have h1 := HNN.out
      have h2 := HLV.out
      rw [if_neg (by omega)] at h1; exact h1
    subst hN
    have HS1 := Lib.hid (lsame_any X1 X1 HF.out.1 true _ _ (wx3.drewN nq) ca1 ctx1 cz1 cm1 co11 ck11 cc11 co21 ck21 cc21 co31 ck31 cc31 0 (-1) (-1) ca2 ctx2 cz2 cm2 co12 ck12 cc12 co22 ck22 cc22 co32 ck32 cc32 0 (-1) (-1) (HQ1.out _ E1.out).2 (HQ2.out _ E2.out).2 (by simp))
    have HS2 := Lib.hid (fun W (h : Below (wx3.drewN nq).heap.size (wx3.drewN nq) W) => lsame_any X1 X2 HF.out.1 false _ _ W ca1 ctx1 cz1 cm1 co11 ck11 cc11 co21 ck21 cc21 co31 ck31 cc31 0 (-1) (-1) ca3 ctx3 cz3 cm3 co13 ck13 cc13 co23 ck23 cc23 co33 ck33 cc33 0 (-1) (-1) ((HQ1.out _ E1.out).2.under h) ((HQ3.out _ E3.out).2.under h) (by have h1 := of_decide_eq_false HF.out.2.2; simp; exact h1))
    have hz1 : wx1.heap.size ≤ (wx3.drewN nq).heap.size := E1.out.size
    have hz2 : wx2.heap.size ≤ (wx3.drewN nq).heap.size := E2.out.size
    have hz3 : wx3.heap.size ≤ (wx3.drewN nq).heap.size := E3.out.size
    have HHZ := Lib.hid (And.intro hz1 (And.intro hz2 hz3))
    clear hz1 hz2 hz3
    go_wp2_with fail
    refine HS1.out.mono ?_
    rintro e w10 ⟨rfl, b10⟩
    have HB10 := Lib.hid (HBq3.out.trans (b10.mono HBq3.out.size))
    have G1 := Lib.hid (E1.out.trans (b10.mono HHZ.out.1))
    have G2 := Lib.hid (E2.out.trans (b10.mono HHZ.out.2.1))
    have G3 := Lib.hid (E3.out.trans (b10.mono HHZ.out.2.2))
    have HSS := Lib.hid (HS2.out w10 b10)
    clear p0 p1 p2 p3 p4 p5 p6 p7 p8 p9 q0 q1 q2 q3 q4 q5 q6 q7 q8 q9 r0 r1 r2 r3 r4 r5 r6 r7 r8 r9 b10
    obtain ⟨⟨p0, p1, p2, p3, p4, p5, p6, p7, p8, p9⟩, -⟩ := (HQ1.out _ G1.out).1.reads
    obtain ⟨⟨q0, q1, q2, q3, q4, q5, q6, q7, q8, q9⟩, -⟩ := (HQ2.out _ G2.out).1.reads
    obtain ⟨⟨r0, r1, r2, r3, r4, r5, r6, r7, r8, r9⟩, -⟩ := (HQ3.out _ G3.out).1.reads
    go_wp2_with fail
    refine HSS.out.mono ?_
    rintro e w11 ⟨rfl, b11⟩
    have HB11 := Lib.hid (HB10.out.trans (b11.mono HB10.out.size))
    clear b11
    go_wp2
    go_ret
    exact ⟨rfl, HB11.out⟩

set_option maxHeartbeats 8000000 in
set_option maxRecDepth 100000 in
theorem chains_any (a b c p q : Int) (w : World) (h : Env w) (_hp : -9223372036854775808 ≤ p ∧ p ≤ 9223372036854775807) (_hq : -9223372036854775808 ≤ q ∧ q ≤ 9223372036854775807) :
    Calls Tryz.prog 5 #[.int .i64 a, .int .i64 b, .int .i64 c, .int .i64 p, .int .i64 q] w fun e w' => e = .returned (.bool true) ∧ Below w.heap.size w w' := by

  by_cases hbig : a < 0 ∨ b < 0 ∨ c < 0 ∨ 1000000000000 < a ∨ 1000000000000 < b ∨ 1000000000000 < c
  · have cA := Lib.hid (fun W (hb : Below w.heap.size w W) => alive_any W (h.below hb))
    have i1 : a < 0 ∨ (0 ≤ a ∧ b < 0) ∨ (0 ≤ a ∧ 0 ≤ b ∧ c < 0) ∨ (0 ≤ a ∧ 0 ≤ b ∧ 0 ≤ c ∧ 1000000000000 < a) ∨ (0 ≤ a ∧ 0 ≤ b ∧ 0 ≤ c ∧ a ≤ 1000000000000 ∧ 1000000000000 < b) ∨ (0 ≤ a ∧ 0 ≤ b ∧ 0 ≤ c ∧ a ≤ 1000000000000 ∧ b ≤ 1000000000000 ∧ 1000000000000 < c) := by omega
    clear hbig h
    rcases i1 with i1 | ⟨i1, i2⟩ | ⟨i1, i2, i3⟩ | ⟨i1, i2, i3, i4⟩ | ⟨i1, i2, i3, i4, i5⟩ | ⟨i1, i2, i3, i4, i5, i6⟩
    all_goals
      go_enter Tryz.func5, Tryz.ntmps5
      go_wp2_with (go_at_call 10; refine (cA.out _ (Below.refl _ _)).mono ?_; rintro e w1 ⟨rfl, b1⟩)
      go_ret
      exact ⟨rfl, b1⟩
  · obtain ⟨a, rfl⟩ : ∃ n : Nat, a = n := ⟨a.toNat, by omega⟩
    obtain ⟨b, rfl⟩ : ∃ n : Nat, b = n := ⟨b.toNat, by omega⟩
    obtain ⟨c, rfl⟩ : ∃ n : Nat, c = n := ⟨c.toNat, by omega⟩
    exact chains_main a b c (by omega) (by omega) (by omega) p q w h
end Go.Proofs.YtmdmjnidfcopcaaGreatDoor.Par
