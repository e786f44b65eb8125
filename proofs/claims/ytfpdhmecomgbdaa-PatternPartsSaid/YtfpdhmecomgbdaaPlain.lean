/- The walk of the statement on texts behind backslashes. -/
import Derived.Test.YtfpdhmecomgbdaaDots
import Derived.Deep.CutRange
import Derived.Deep.DeepFit
import Derived.MapKept
namespace Go.Proofs.Ytfpdhmecomgbdaa
open Go.RowKit

/-- The characters, each behind a backslash. -/
def escB (xs : List Int) : ByteArray := ⟨(xs.flatMap fun r => 92 :: Lib.encodeRune r).toArray⟩
theorem escB_step (xs : List Int) (r : Int) : escB xs ++ ((⟨#[92]⟩ : ByteArray) ++ runesBytes [r]) = escB (xs ++ [r]) := by
  apply bytes_ext
  simp only [ByteArray.data_append, Array.toList_append]
  rw [runesBytes_data]
  show (xs.flatMap fun r => 92 :: Lib.encodeRune r) ++ ([92] ++ [r].flatMap Lib.encodeRune) = (xs ++ [r]).flatMap fun r => 92 :: Lib.encodeRune r
  simp
theorem enc_len (r : Int) : (Lib.encodeRune r).length ≤ 4 := by
  have := bytes_size [r]
  rw [Lib.size_eq, runesBytes_data] at this
  simpa using this
theorem escB_size (xs : List Int) : (escB xs).size ≤ 5 * xs.length := by
  have e : (escB xs).size = (xs.flatMap fun r => 92 :: Lib.encodeRune r).length := by simp [escB, ByteArray.size]
  rw [e]
  induction xs with
  | nil => simp
  | cons r l ih => have := enc_len r; simp only [List.flatMap_cons, List.length_append, List.length_cons] at *; specialize ih (by simp [escB, ByteArray.size]); omega
theorem right_one (r : Int) : Right (Lib.encodeRune r) := by have := right_enc [r]; simpa using this
theorem esc_spell : ∀ xs : List Int, spell (xs.flatMap fun r => 92 :: Lib.encodeRune r) = xs.flatMap fun r => [92, norm r]
  | [] => rfl
  | r :: l => by
    rw [List.flatMap_cons, List.cons_append, ascii_cons _ (by decide), spell_app _ _ (right_one r), spell_encode, esc_spell l]
    rfl
theorem escB_spell {xs : List Int} (h : ∀ r ∈ xs, okR r) : spell (escB xs).data.toList = xs.flatMap fun r => [92, r] := by
  have e : (escB xs).data.toList = xs.flatMap fun r => 92 :: Lib.encodeRune r := by simp [escB]
  rw [e, esc_spell]
  induction xs with
  | nil => rfl
  | cons r l ih =>
    rw [List.flatMap_cons, List.flatMap_cons, norm_id (h r (by simp)), ih (fun r hr => h r (by simp [hr])) (by simp [escB])]
theorem esc_comp (xs : List Int) (h : ∀ r ∈ xs, okR r) (hl : xs.length ≤ 20) (W : World) : ∃ T, (∀ rs, wholeF T rs = decide (rs = xs)) ∧ PatOk T ∧ Calls Try.prog 12 #[.string (escB xs)] W (Comp W (escB xs) T) := by
  have hs := escB_size xs
  have hsp := escB_spell h
  have hr := read_esc xs
  rw [← hsp] at hr
  have hl : ¬ 40 < (spell (escB xs).data.toList).length := by
    rw [hsp]
    have : ∀ l : List Int, (l.flatMap fun r => [92, r]).length = 2 * l.length := by
      intro l
      induction l with
      | nil => rfl
      | cons r l ih => simp only [List.flatMap_cons, List.length_append, List.length_cons, List.length_nil]; omega
    rw [this]; omega
  exact ⟨_, fun rs => by rw [Bool.eq_iff_iff, whole_lang, lang_esc]; simp, readP_ok hr hl, compile_ok _ _ W (by omega) hl hr⟩
/-- One character, as a text. -/
theorem conv_one (r : Int) (W : World) : (convert 22 9 (.slice (some ⟨W.heap.size, 0, none⟩) 1 1)).run Try.prog (W.alloc (.cells #[.int .i32 r] 21)) = .ok (.string (runesBytes [r])) (W.alloc (.cells #[.int .i32 r] 21)) := by
  refine Lies.conv (xs := [r]) (.inr ⟨W.heap.size, rfl, by simp, fun j x hx => ?_⟩) 1 1 (by simp)
  cases j with
  | zero => obtain rfl : r = x := by simpa using hx
            exact cell_1 W (.int .i32 r) 21 0 _ rfl
  | succ j => simp at hx
/-- A whole list of characters, as a text. -/
theorem conv_all {oa : Option Addr} {xs : List Int} {W : World} (h : Lies oa xs W) {n : Nat} (hn : xs.length = n) (cap : Nat) : (convert 22 9 (.slice oa n cap)).run Try.prog W = .ok (.string (runesBytes xs)) W := by
  have := h.conv n cap (Nat.le_of_eq hn.symm)
  rwa [List.take_of_length_le (Nat.le_of_eq hn)] at this
theorem one_size (r : Int) : (runesBytes [r]).size ≤ 4 := by have := bytes_size [r]; simpa using this
theorem bytes_inj {xs ys : List Int} (hx : ∀ r ∈ xs, okR r) (hy : ∀ r ∈ ys, okR r) : ((runesBytes xs).toList == (runesBytes ys).toList) = decide (xs = ys) := by
  have e : ∀ c d : ByteArray, (c.toList == d.toList) = true ↔ c = d := fun c d => by rw [← beq_toListBytes]; exact MapKept.bytes_beq c d
  rw [Bool.eq_iff_iff, decide_eq_true_iff, e]
  constructor
  · intro h
    rw [← spell_bytes hx, ← spell_bytes hy, h]
  · rintro rfl; rfl

set_option maxHeartbeats 800000 in
set_option maxRecDepth 100000 in
theorem plain_any (a b : ByteArray) (w : World) :
    Calls Try.prog 3 #[.string a, .string b] w fun e w' => e = .returned (.bool true) ∧ Below w.heap.size w w' := by
  have HAL := Lib.hid (fun W => alive_any W)
  by_cases h1 : 30 < a.size
  · have i1 : (30 : Int) < a.size := by omega
    have t1 : decide ((30 : Int) < a.size) = true := by simpa using i1
    clear h1
    go_enter Try.func3, Try.ntmps3
    go_wp2_with fail
    refine (HAL.out _).mono ?_
    rintro e w1 ⟨rfl, b1⟩
    go_wp2
    go_ret
    exact ⟨rfl, b1⟩
  have i1 : (a.size : Int) ≤ 30 := by omega
  have t1 : decide ((30 : Int) < a.size) = false := by simpa using i1
  by_cases h2 : 60 < b.size
  · have i2 : (60 : Int) < b.size := by omega
    have t2 : decide ((60 : Int) < b.size) = true := by simpa using i2
    clear h1 h2
    go_enter Try.func3, Try.ntmps3
    go_wp2_with fail
    refine (HAL.out _).mono ?_
    rintro e w1 ⟨rfl, b1⟩
    go_wp2
    go_ret
    exact ⟨rfl, b1⟩
  have i2 : (b.size : Int) ≤ 60 := by omega
  have t2 : decide ((60 : Int) < b.size) = false := by simpa using i2
  have has : a.size ≤ 30 := by omega
  have hbs : b.size ≤ 60 := by omega
  clear h1 h2
  have HSA := Lib.hid (fun W => spell_any a W (by omega))
  have HSB := Lib.hid (fun W => spell_any b W (by omega))
  have hok := spell_ok a.data.toList
  have hokb := spell_ok b.data.toList
  have hAl := spell_size a
  have hBl := spell_size b
  obtain ⟨xs, hxs⟩ : ∃ xs, spell a.data.toList = xs := ⟨_, rfl⟩
  obtain ⟨ys, hys⟩ : ∃ ys, spell b.data.toList = ys := ⟨_, rfl⟩
  obtain ⟨K, hK⟩ : ∃ K, xs.length = K := ⟨_, rfl⟩
  obtain ⟨L, hL⟩ : ∃ L, ys.length = L := ⟨_, rfl⟩
  have HX := Lib.hid hxs
  have HY := Lib.hid hys
  have HK := Lib.hid hK
  have HL := Lib.hid hL
  rw [hxs] at hAl hok HSA
  rw [hys] at hBl hokb HSB
  rw [hK] at hAl
  rw [hL] at hBl
  have HOK := Lib.hid hok
  have HOKB := Lib.hid hokb
  clear hok hokb hxs hys hK hL
  by_cases h3 : 20 < K
  · have i3 : (20 : Int) < K := by omega
    have t3 : decide ((20 : Int) < K) = true := by simpa using i3
    clear h3
    go_enter Try.func3, Try.ntmps3
    go_wp2_with fail
    refine (HSA.out _).mono ?_
    rintro e w1 ⟨hsp, b1⟩
    obtain ⟨oa, cap, rfl, hcap, _⟩ := hsp.open
    rw [HK.out] at hcap ⊢
    have HB1 := Lib.hid b1
    clear b1 hsp
    go_wp2_with fail
    refine (HAL.out _).mono ?_
    rintro e w2 ⟨rfl, b2⟩
    have HB2 := Lib.hid (HB1.out.trans (b2.mono HB1.out.size))
    clear b2
    go_wp2
    go_ret
    exact ⟨rfl, HB2.out⟩
  have i3 : (K : Int) ≤ 20 := by omega
  have t3 : decide ((20 : Int) < K) = false := by simpa using i3
  have hk20 : K ≤ 20 := by omega
  clear h3
  go_enter Try.func3, Try.ntmps3
  go_wp2_with fail
  refine (HSA.out _).mono ?_
  rintro e w1 ⟨hsp, b1⟩
  obtain ⟨oa, cap, rfl, hcap, _⟩ := hsp.open
  rw [HK.out] at hcap ⊢
  have HB1 := Lib.hid b1
  clear b1 hsp
  go_wp2_with fail
  refine (HAL.out _).mono ?_
  rintro e w2 ⟨rfl, b2⟩
  have HB2 := Lib.hid (HB1.out.trans (b2.mono HB1.out.size))
  clear b2
  go_wp2_with fail
  go_loopg [5] (a.size + 1) (fun k v wr => ∃ (pos : Nat) (zs : List Int), k + pos = a.size + 1 ∧ pos ≤ a.size ∧ v = .string (escB zs) ∧ zs.length ≤ pos ∧ wr.heap[w2.heap.size]? = some (.stringIter a pos) ∧ Hid (zs ++ spell (a.data.toList.drop pos) = xs ∧ Below w.heap.size w wr))
  case atStart =>
    refine ⟨0, [], rfl, by omega, rfl, by simp, World.iter_heap w2 a 0, ?_, ?_⟩
    · simpa using HX.out
    · exact HB2.out.alloc HB2.out.size _
  case round =>
    obtain ⟨pos, zs, hgk, hps, rfl, hzl, hit, H⟩ := hrel
    have HGK := Lib.hid hgk
    by_cases hp : pos < a.size
    · have hnx : ∀ ty, (Instr.next (.pointer (some ⟨w2.heap.size, 0, none⟩)) true ty).run Try.prog wr = _ := fun ty => Lib.run_next_any_at wr w2.heap.size a pos ty hit hp
      have hwl := width_le hp
      have hwd := width1 a pos
      have hit2 := Lib.iterAt_heap wr w2.heap.size a pos (pos + (Utf8.decode a pos).2) hit
      have hbw2 := Lib.below_iterAt H.out.2 (k := w2.heap.size) HB2.out.size a (pos + (Utf8.decode a pos).2)
      have H2 : (zs ++ [((Utf8.decode a pos).1 : Int)]) ++ spell (a.data.toList.drop (pos + (Utf8.decode a pos).2)) = xs := by
        rw [← H.out.1, spell_at hp]; simp
      obtain ⟨W1, hW1⟩ : ∃ W1, W1 = wr.iterAt w2.heap.size a (pos + (Utf8.decode a pos).2) := ⟨_, rfl⟩
      rw [← hW1] at hnx hit2 hbw2
      obtain ⟨r, hr⟩ : ∃ r : Int, r = ((Utf8.decode a pos).1 : Int) := ⟨_, rfl⟩
      obtain ⟨q, hq⟩ : ∃ q, q = (Utf8.decode a pos).2 := ⟨_, rfl⟩
      rw [← hr] at hnx H2
      rw [← hq] at hwl hwd hit2 H2
      have H3 := Lib.hid (And.intro H2 hbw2)
      have hzs := escB_size zs
      clear hW1 hit H hgk H2 hbw2 hr hq
      have hcv := conv_one r W1
      have hone := one_size r
      have hW1 : w2.heap.size < W1.heap.size := (Array.getElem?_eq_some_iff.1 hit2).1
      go_wp2_with fail
      go_roundg (gk - q)
      case measure => have := HGK.out; omega
      case rel =>
        refine ⟨pos + q, zs ++ [r], by have := HGK.out; omega, hwl, by rw [escB_step], by simp; omega, ?_, H3.out.1, ?_⟩
        · rw [Below.heap_alloc _ _ _ hW1]; exact hit2
        · exact H3.out.2.alloc (by have := H3.out.2.size; omega) _
    · have hnx : ∀ ty, (Instr.next (.pointer (some ⟨w2.heap.size, 0, none⟩)) true ty).run Try.prog wr = _ := fun ty => Lib.run_next_end_at wr w2.heap.size a pos ty hit hp
      have hzx : zs = xs := by rw [← H.out.1, spell_end hp]; simp
      subst hzx
      have HB := Lib.hid H.out.2
      obtain ⟨T, hat, hokT, hc⟩ := esc_comp zs HOK.out (by rw [HK.out]; exact hk20) wr
      have HC := Lib.hid hc
      have HPO := Lib.hid hokT
      have HWA := Lib.hid (fun bp W (hp : PatAt W bp (escB zs) T) => whole_any bp _ T a W hp hokT (by omega))
      have HWB := Lib.hid (fun bp W (hp : PatAt W bp (escB zs) T) => whole_any bp _ T b W hp hokT (by omega))
      have kA := hat (spell a.data.toList)
      have kB := hat (spell b.data.toList)
      rw [HX.out, decide_eq_true rfl] at kA
      rw [HX.out, kA] at HWA
      rw [HY.out] at kB HWB
      rw [kB] at HWB
      have kC := bytes_inj HOK.out HOKB.out
      obtain ⟨V, hV⟩ : ∃ V, decide (ys = zs) = V := ⟨_, rfl⟩
      have kD : decide (zs = ys) = V := by rw [← hV]; exact decide_eq_decide.2 eq_comm
      rw [hV] at HWB kB
      rw [kD] at kC
      have HC2 := Lib.hid kC
      clear hc hokT hat kA kB kC hV kD hit H hgk hp
      go_wp2_with fail
      refine HC.out.mono ?_
      rintro e w4 ⟨bp, rfl, hp4, b4⟩
      have HP4 := Lib.hid hp4
      have HB4 := Lib.hid (HB.out.trans (b4.mono HB.out.size))
      clear b4 hp4
      go_wp2_with fail
      go_cut [10, 11] from 53 to 58 (fun s10 s11 wx => s10 = .string (runesBytes zs) ∧ s11 = .string (runesBytes ys) ∧ Hid (Below w4.heap.size w4 wx))
      case first =>
        go_region_with (first
          | (go_at_call 10; go_fit (HSA.out _); rintro e wa ⟨hsa, ba⟩; obtain ⟨oaa, ca, rfl, hca, hla⟩ := hsa.open; have hLA := Lib.hid (show Lies oaa zs wa from hla); have cva := conv_all hLA.out HK.out ca; rw [HK.out] at hca ⊢; clear hsa hla)
          | (go_at_call 10; go_fit (HSB.out _); rintro e wb ⟨hsb, bb⟩; obtain ⟨oab, cb, rfl, hcb, hlb⟩ := hsb.open; have hLB := Lib.hid (show Lies oab ys wb from hlb); have cvb := conv_all hLB.out HL.out cb; have cva2 := conv_all (hLA.out.below bb) HK.out ca; rw [HL.out] at hcb ⊢; clear hsb hlb))
        all_goals go_wp2_with fail
        all_goals go_meet
        all_goals exact ⟨rfl, rfl, ((Below.refl _ _).drew.trans ba).trans (bb.mono ba.size)⟩
      case rest =>
        obtain ⟨rfl, rfl, hbx⟩ := hcut
        have HP5 := Lib.hid (HP4.out.below hbx.out)
        have HB5 := Lib.hid (HB4.out.trans (hbx.out.mono HB4.out.size))
        clear hbx
        go_wp2_with fail
        refine (HWA.out bp wc HP5.out).mono ?_
        rintro e w6 ⟨rfl, b6⟩
        have HP6 := Lib.hid (HP5.out.below b6)
        have HB6 := Lib.hid (HB5.out.trans (b6.mono HB5.out.size))
        clear b6
        go_wp2_with fail
        refine (HWB.out bp w6 HP6.out).mono ?_
        rintro e w7 ⟨rfl, b7⟩
        have HB7 := Lib.hid (HB6.out.trans (b7.mono HB6.out.size))
        clear b7
        go_wp2_with fail
        go_ret
        exact ⟨ret_bool (by rw [HC2.out]; simp), HB7.out⟩
end Go.Proofs.Ytfpdhmecomgbdaa
