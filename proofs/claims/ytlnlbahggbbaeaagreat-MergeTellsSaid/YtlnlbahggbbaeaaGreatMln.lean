/- Lists few and short enough; a first call: the walks. -/
import Derived.Test.YtlnlbahggbbaeaaGreatMlj
import Derived.Test.YtlnlbahggbbaeaaGreatMlk
namespace Go.Proofs.YtlnlbahggbbaeaaGreat.Mrg
open Go.RowKit Go.Lib Go.Proofs.YtlnlbahggbbaeaaGreat Go.Proofs.YtlnlbahggbbaeaaGreat.Vec Go.Proofs.YtlnlbahggbbaeaaGreat.Stb

/-- Lists of rows, of whatever length. -/
def ListG (w : World) (B : Nat) (o : Option Addr) (ms : List Ls) : Prop :=
  ms = [] ∨ ∃ b off, o = some ⟨b, off, none⟩ ∧ b < w.heap.size ∧ ∀ (j : Nat) (m : Ls), ms[j]? = some m → w.cell? ⟨b, off + j, none⟩ = some (.slice m.o m.xs.length m.c) ∧ m.xs.length ≤ m.c ∧ m.xs.length ≤ maxLen ∧ RowsS w B m.o m.xs
theorem ListG.below {w w' : World} {B : Nat} {o : Option Addr} {ms : List Ls} (h : ListG w B o ms) (hb : Below w.heap.size w w') : ListG w' B o ms := by
  rcases h with h | ⟨b, off, e, hl, h⟩
  · exact .inl h
  · exact .inr ⟨b, off, e, Nat.lt_of_lt_of_le hl hb.size, fun j m hm => ⟨(hb.cell (p := ⟨b, _, none⟩) hl).trans (h j m hm).1, (h j m hm).2.1, (h j m hm).2.2.1, (h j m hm).2.2.2.below frow hb⟩⟩
/-- How many rows there are. -/
def sumN (ms : List Ls) : Nat := (ms.map fun m => m.xs.length).sum
theorem sumN_flat : ∀ ms : List Ls, sumN ms = (lsx ms).flatten.length
  | [] => rfl
  | m :: ms => by
    have ih := sumN_flat ms
    unfold sumN lsx at ih ⊢
    rw [List.map_cons, List.sum_cons, ih, List.map_cons, List.flatten_cons, List.length_append]
theorem sumN_snoc {ms : List Ls} {i : Nat} {m : Ls} (h : ms[i]? = some m) : sumN (ms.take (i + 1)) = sumN (ms.take i) + m.xs.length := by
  rw [take_atG h]
  unfold sumN
  rw [List.map_append, List.sum_append]; simp
def lightL (ms : List Ls) : Bool := (ms.take 30).all (fun m => lightR m.xs) && (decide ((ms.length : Int) ≤ 20) && decide ((sumN (ms.take 30) : Int) ≤ 200))
structure LightL (ms : List Ls) : Prop where
  len : ms.length ≤ 20
  sum : (lsx ms).flatten.length ≤ 200
  each : ∀ m ∈ ms, m.xs.length ≤ 60 ∧ SmR m.xs
theorem lightL_mk {ms : List Ls} (h : lightL ms = true) : LightL ms := by
  unfold lightL at h
  simp only [Bool.and_eq_true, decide_eq_true_eq] at h
  obtain ⟨h1, h2, h3⟩ := h
  have ht : ms.take 30 = ms := List.take_of_length_le (by omega)
  rw [ht] at h1 h3
  refine ⟨by omega, by rw [← sumN_flat]; omega, fun m hm => lightR_mk (List.all_eq_true.1 h1 m hm)⟩
theorem ListG.light {w : World} {B : Nat} {o : Option Addr} {ms : List Ls} (h : ListG w B o ms) (hl : LightL ms) : ListS w B o ms := by
  rcases h with h | ⟨b, off, e, hb, h⟩
  · exact .inl h
  · exact .inr ⟨b, off, e, hb, fun j m hm => ⟨(h j m hm).1, (h j m hm).2.1, by have := (hl.each m (List.mem_of_getElem? hm)).1; omega, (h j m hm).2.2.2⟩⟩

set_option maxHeartbeats 4000000 in
set_option maxRecDepth 100000 in
theorem light_list (o : Option Addr) (n c B : Nat) (ms : List Ls) (w : World) (hn : ms.length = n) (hS : ListG w B o ms) :
    Calls Tryz.prog 4 #[.slice o n c] w fun e w' => e = .returned (.bool (lightL ms)) ∧ Below w.heap.size w w' := by
  have HN := Lib.hid hn
  have HS := Lib.hid hS
  have HE := Lib.hid (show lightL ms = ((ms.take 30).all (fun m => lightR m.xs) && (decide ((n : Int) ≤ 20) && decide ((sumN (ms.take 30) : Int) ≤ 200))) by rw [← hn]; rfl)
  obtain ⟨r, hr⟩ : ∃ r, lightL ms = r := ⟨_, rfl⟩
  rw [hr] at HE ⊢
  clear hn hS hr
  go_enter Tryz.func4, Tryz.ntmps4
  go_wp2
  go_loopw [3, 4] (fun v3 v4 wr => ∃ i : Nat, v3 = .int .i64 (sumN (ms.take i) : Nat) ∧ v4 = .int .i64 (i : Nat) ∧ i ≤ n ∧ i ≤ 30 ∧ sumN (ms.take i) ≤ 60 * i ∧ Hid ((ms.take i).all (fun m => lightR m.xs) = true) ∧ Hid (Below w.heap.size w wr)) (fun _ v4 _ => 31 - (Go.RowKit.intOf v4).toNat)
  case atStart => exact ⟨0, rfl, rfl, Nat.zero_le _, Nat.zero_le _, Nat.le_refl _, rfl, Below.refl _ _⟩
  case round =>
    obtain ⟨i, rfl, rfl, hi, h30, hs, HA, HB⟩ := hrel
    have i0 : (0 : Int) ≤ i := by omega
    by_cases hin : i < n
    · have i1 : (i : Int) < n := by omega
      by_cases hi30 : i < 30
      · have i2 : (i : Int) < 30 := by omega
        obtain ⟨m, hm⟩ := get_ltG HN.out hin
        obtain ⟨b, off, rfl, hlow, hcs⟩ : ∃ b off, o = some ⟨b, off, none⟩ ∧ b < w.heap.size ∧ ∀ (j : Nat) (m : Ls), ms[j]? = some m → w.cell? ⟨b, off + j, none⟩ = some (.slice m.o m.xs.length m.c) ∧ m.xs.length ≤ m.c ∧ m.xs.length ≤ maxLen ∧ RowsS w B m.o m.xs := by
          rcases HS.out with h | h
          · have := HN.out; rw [h] at this; simp at this; omega
          · exact h
        obtain ⟨hc, _, _, hR⟩ := hcs i m hm
        rw [← HB.out.cell (p := ⟨b, off + i, none⟩) hlow] at hc
        have HL := Lib.hid (lightR_any m.o m.xs.length m.c m.xs wr B rfl (hR.below frow HB.out))
        have HAS := Lib.hid (show (ms.take (i + 1)).all (fun m => lightR m.xs) = ((ms.take i).all (fun m => lightR m.xs) && lightR m.xs) by rw [take_atG hm, List.all_append]; simp)
        have HSS := Lib.hid (sumN_snoc hm)
        have HMem := Lib.hid (show m ∈ ms.take 30 from List.mem_of_getElem? (i := i) (by rw [List.getElem?_take, if_pos hi30]; exact hm))
        obtain ⟨mo, hmo⟩ : ∃ mo, m.o = mo := ⟨_, rfl⟩
        obtain ⟨mn, hmn⟩ : ∃ mn, m.xs.length = mn := ⟨_, rfl⟩
        obtain ⟨mc, hmc⟩ : ∃ mc, m.c = mc := ⟨_, rfl⟩
        rw [hmo, hmn, hmc] at hc HL
        rw [hmn] at HSS
        cases hl : lightR m.xs with
        | false =>
          rw [hl] at HL
          have HF := Lib.hid (show r = false by
            rw [HE.out, List.all_eq_false.2 ⟨m, HMem.out, by rw [hl]; simp⟩]; rfl)
          clear hcs hm hR hmo hmn hmc hl
          go_wp2_with fail
          refine HL.out.mono ?_
          rintro e w1 ⟨rfl, b1⟩
          have HB1 := Lib.hid (HB.out.trans (b1.mono HB.out.size))
          clear b1
          go_wp2
          go_ret
          exact ⟨by rw [HF.out]; rfl, HB1.out⟩
        | true =>
          rw [hl] at HL HAS
          have hmn60 : mn ≤ 60 := by rw [← hmn]; exact (lightR_mk hl).1
          have HA1 := Lib.hid (show (ms.take (i + 1)).all (fun m => lightR m.xs) = true by rw [HAS.out, HA.out]; rfl)
          obtain ⟨s, hsx⟩ : ∃ s, sumN (ms.take i) = s := ⟨_, rfl⟩
          rw [hsx] at HSS hs ⊢
          have wk : IntKind.i64.wrap ((s : Int) + mn) = ((s + mn : Nat) : Int) := by rw [IntKind.wrap_i64]; omega
          have wk2 : IntKind.i64.wrap ((i : Int) + 1) = ((i + 1 : Nat) : Int) := by rw [IntKind.wrap_i64]; omega
          clear hcs hm hR hmo hmn hmc hl hsx
          go_wp2_with fail
          refine HL.out.mono ?_
          rintro e w1 ⟨rfl, b1⟩
          have hc1 := (b1.cell (p := ⟨b, off + i, none⟩) (Nat.lt_of_lt_of_le hlow HB.out.size)).trans hc
          have HB1 := Lib.hid (HB.out.trans (b1.mono HB.out.size))
          clear b1 hc
          go_wp2
          go_roundw
          case rel => exact ⟨i + 1, by rw [HSS.out, Int.natCast_add], rfl, by omega, by omega, by rw [HSS.out]; omega, HA1, HB1⟩
          case measure => simp [Go.RowKit.intOf]; omega
      · have i2 : (30 : Int) ≤ i := by omega
        have hi31 : i = 30 := by omega
        subst hi31
        have k1 : (20 : Int) < n := by omega
        have HF := Lib.hid (show r = false by
          rw [HE.out, HA.out, decide_eq_false (by omega)]; rfl)
        have kd : decide ((n : Int) ≤ 20) = false := decide_eq_false (by omega)
        go_wp2
        go_ret
        exact ⟨by rw [HF.out]; rfl, HB.out⟩
    · have i1 : (n : Int) ≤ i := by omega
      have hin2 : i = n := by omega
      subst hin2
      have ht : ms.take 30 = ms.take i := by rw [List.take_of_length_le (by have := HN.out; omega), List.take_of_length_le (by have := HN.out; omega)]
      rw [ht, HA.out, Bool.true_and] at HE
      obtain ⟨s, hsx⟩ : ∃ s, sumN (ms.take i) = s := ⟨_, rfl⟩
      rw [hsx] at HE ⊢
      clear ht hsx hs
      by_cases k1 : (i : Int) ≤ 20
      · by_cases k2 : (s : Int) ≤ 200
        · rw [decide_eq_true k1, decide_eq_true k2] at HE
          go_wp2
          go_ret
          exact ⟨by rw [HE.out]; rfl, HB.out⟩
        · rw [decide_eq_true k1, decide_eq_false k2] at HE
          have k3 : (200 : Int) < s := by omega
          go_wp2
          go_ret
          exact ⟨by rw [HE.out]; rfl, HB.out⟩
      · rw [decide_eq_false k1] at HE
        have k3 : (20 : Int) < i := by omega
        go_wp2
        go_ret
        exact ⟨by rw [HE.out]; rfl, HB.out⟩
end Go.Proofs.YtlnlbahggbbaeaaGreat.Mrg
