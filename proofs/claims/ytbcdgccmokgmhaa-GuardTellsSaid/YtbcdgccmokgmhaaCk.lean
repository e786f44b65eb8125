/- Walks: lists of texts are compared; what a list of texts gives the walks. -/
import Derived.Test.YtbcdgccmokgmhaaAr
import Derived.Test.YtbcdgccmokgmhaaCi
import Derived.Deep.QuietTactic
import Derived.BigQuiet
namespace Go.Proofs.Ytbcdgccmokgmhaa.Crc
open Go.ChangeShapes Go.WideShapes Go.ChangeAt Go.RowKit Go.Lib

/-- A slice that reads as these texts. -/
def SeesT (w : World) (o : Option Addr) (zs : List ByteArray) : Prop := zs = [] ∨ ∃ b off, o = some ⟨b, off, none⟩ ∧ b < w.heap.size ∧ ∀ (j : Nat) (x : ByteArray), zs[j]? = some x → w.cell? ⟨b, off + j, none⟩ = some (.string x)
theorem SeesT.below {w w' : World} {o : Option Addr} {zs : List ByteArray} (h : SeesT w o zs) (hb : Below w.heap.size w w') : SeesT w' o zs :=
  h.imp id fun ⟨b, off, e, hl, hc⟩ => ⟨b, off, e, Nat.lt_of_lt_of_le hl hb.size, fun j x hx => (hb.cell (p := ⟨b, off + j, none⟩) hl).trans (hc j x hx)⟩
theorem SeesT.at {w : World} {o : Option Addr} {zs : List ByteArray} (h : SeesT w o zs) {k : Nat} {x : ByteArray} (hx : zs[k]? = some x) : ∃ b off, o = some ⟨b, off, none⟩ ∧ w.cell? ⟨b, off + k, none⟩ = some (.string x) := by
  rcases h with rfl | ⟨b, off, e, _, hc⟩
  · simp at hx
  · exact ⟨b, off, e, hc k x hx⟩
theorem SeesT.take {w : World} {o : Option Addr} {zs : List ByteArray} (h : SeesT w o zs) (c : Nat) : SeesT w o (zs.take c) := by
  rcases h with rfl | ⟨b, off, e, hl, hc⟩
  · exact .inl (by simp)
  · refine .inr ⟨b, off, e, hl, fun j x hx => hc j x ?_⟩
    rw [List.getElem?_take] at hx
    split at hx
    · exact hx
    · cases hx
theorem flat_at (zs : List ByteArray) (j : Nat) (x : ByteArray) (h : zs[j]? = some x) : (BkX.flatE zs)[j]? = some (.string x) := by
  have := BkX.flatE_at zs j x h 0 (.string x) rfl
  simpa using this
theorem own_seesT {w : World} {B n : Nat} {v : Value} {zs : List ByteArray} (hn : zs.length = n) (h : w.ownsRow B 9 1 v n (BkX.flatE zs)) : ∃ o c, v = .slice o n c ∧ SeesT w o zs := by
  rcases BkX.own_open h with ⟨rfl, h0, _⟩ | ⟨g, cap, rfl, _, hg, _, _, hc⟩
  · subst h0
    exact ⟨none, 0, rfl, .inl (List.eq_nil_of_length_eq_zero hn)⟩
  · exact ⟨_, _, rfl, .inr ⟨g, 0, rfl, hg, fun j x hx => by rw [Nat.zero_add]; exact hc j _ (flat_at zs j x hx)⟩⟩
theorem sees_T {w : World} {o : Option Addr} {zs : List ByteArray} (h : SeesN w o zs) : SeesT w o zs := by
  rcases h with h | ⟨b, off, e, hl, hc⟩
  · exact .inl h
  · refine .inr ⟨b, off, e, hl, fun j x hx => ?_⟩
    have hj := (List.getElem?_eq_some_iff.1 hx).1
    have h1 := hc j hj
    rw [List.getD, hx] at h1
    exact h1
theorem drewN_two (w : World) (a b : Nat) : (w.drewN a).drewN b = w.drewN (a + b) := BkX.drewN_drewN w a b
theorem get_at {xs : List ByteArray} {n k : Nat} (hn : xs.length = n) (hk : k < n) : ∃ x, xs[k]? = some x := ⟨xs[k]'(by omega), List.getElem?_eq_getElem _⟩

set_option maxHeartbeats 2000000 in
set_option maxRecDepth 100000 in
theorem same_any (o1 o2 : Option Addr) (c1 c2 : Nat) (zs : List ByteArray) (hx : zs.length ≤ 1000000) (w : World) (h1 : SeesT w o1 zs) (h2 : SeesT w o2 zs) :
    Calls Try.prog 17 #[.slice o1 zs.length c1, .slice o2 zs.length c2] w fun e w' => e = .returned (.bool true) ∧ Below w.heap.size w w' := by
  obtain ⟨n, hn⟩ : ∃ n, zs.length = n := ⟨_, rfl⟩
  have HN := Lib.hid hn
  rw [hn] at hx ⊢
  have H1 := Lib.hid h1
  have H2 := Lib.hid h2
  clear hn h1 h2
  go_enter Try.func17, Try.ntmps17
  go_wp2
  go_loopw [5] (fun v wr => ∃ k : Nat, v = .int .i64 k ∧ k ≤ n ∧ Hid (Below w.heap.size w wr)) (fun v _ => n - (Go.RowKit.intOf v).toNat)
  case atStart => exact ⟨0, rfl, Nat.zero_le _, Lib.hid (Below.refl _ _)⟩
  case round =>
    obtain ⟨k, rfl, hk, HB⟩ := hrel
    by_cases hkn : k < n
    · have i1 : (k : Int) < n := by omega
      have i0 : (0 : Int) ≤ k := by omega
      obtain ⟨x, hx⟩ := get_at HN.out hkn
      obtain ⟨b, off, rfl, c1⟩ := (H1.out.below HB.out).at hx
      obtain ⟨b2, off2, rfl, c2⟩ := (H2.out.below HB.out).at hx
      clear hx
      go_wp2_with fail
      go_quiet (fail)
      have HBq := Lib.hid (show Below w.heap.size w (wr.drewN nq) from HB.out.trans ((drewN_below wr nq).mono HB.out.size))
      go_wp2
      go_roundw
      case rel => exact ⟨k + 1, by go_num, by omega, HBq⟩
      case measure => simp [Go.RowKit.intOf]; omega
    · have i1 : (n : Int) ≤ k := by omega
      go_wp2
      go_ret
      exact ⟨rfl, HB.out⟩

theorem texts_of {H : Type} {enc : TypeId × Value → H} {W : World} {a0 : Option Addr} {len cap fuel : Nat} {d : DataW H} {p : List MemPlace} (h : DataW.trod enc Try.prog W 0 (fun _ => true) true fuel 31 [.slice a0 len cap] = some (d, p)) :
    ∃ ns : List ByteArray, ns.length = len ∧ ns.length ≤ maxLen ∧ (∀ s ∈ ns, s.size ≤ maxLen) ∧ SeesT W a0 ns ∧ len ≤ cap ∧ cap ≤ maxLen ∧ (a0 = none → len = 0 ∧ cap = 0) := by
  obtain ⟨ns, h1, h2, h3, h4⟩ := names_of h
  refine ⟨ns, h1, h2, h3, sees_T h4, ?_⟩
  rcases open_strings Try.underlying31 Try.underlying9 cells9 h with ⟨hcs, _⟩ | ⟨a, len', cap', ss, hcs, _, hl, hm, hmm, _, hc, hz⟩
  · simp at hcs
    obtain ⟨rfl, rfl, rfl⟩ := hcs
    exact ⟨Nat.le_refl _, Nat.zero_le _, fun _ => ⟨rfl, rfl⟩⟩
  · simp at hcs
    obtain ⟨rfl, rfl, rfl⟩ := hcs
    exact ⟨hl, hm, fun e => by cases e⟩
end Go.Proofs.Ytbcdgccmokgmhaa.Crc
