/- Walks: the document's own Text. -/
import Derived.Test.YtbdnonphkobkoaaGreatGf
import Derived.Test.YtbdnonphkobkoaaGreatRqg
namespace Go.Proofs.YtbdnonphkobkoaaGreat
open Go.RowKit Go.Lib

theorem snoc_str (acc l : List UInt8) (s : ByteArray) (h : s.data.toList = l) : (⟨acc.toArray⟩ : ByteArray) ++ s = ⟨(acc ++ l).toArray⟩ := by
  apply bytes_ext
  rw [ByteArray.data_append, Array.toList_append, h]

set_option maxHeartbeats 4000000 in
set_option maxRecDepth 100000 in
theorem rtext_any (o : Option Addr) (cap : Nat) (xs : List Lab) (w : World) (hm : xs.length ≤ 1000000) (hS : SeesO w o xs) (hv : ∀ x ∈ xs, x.1.size ≤ 1000 ∧ x.2.size ≤ 1000) :
    Calls Tryz.prog 102 #[.slice o xs.length cap] w fun e w' => e = .returned (.string ⟨(textT xs).toArray⟩) ∧ Below w.heap.size w w' := by
  obtain ⟨n, hn⟩ : ∃ n, xs.length = n := ⟨_, rfl⟩
  have HN := Lib.hid hn
  rw [hn] at hm ⊢
  clear hn
  have HSO := Lib.hid hS
  have HV := Lib.hid hv
  have HQ := Lib.hid (fun (x : Lab) (W : World) (h : x.2.size ≤ 1000) => rquote_any x.2 W (by omega))
  clear hS hv
  go_enter Tryz.func102, Tryz.ntmps102
  go_wp2
  go_loopw [3, 4] (fun v3 v4 wr => ∃ (k : Nat) (acc : List UInt8), v4 = .int .i64 k ∧ k ≤ n ∧ v3 = .string ⟨acc.toArray⟩ ∧ Hid (acc ++ (if k = 0 then headT xs else tailT (xs.drop k)) = textT xs) ∧ acc.length ≤ 10000 * k + 1 ∧ Hid (Below w.heap.size w wr)) (fun _ v4 _ => n - (Go.RowKit.intOf v4).toNat)
  case atStart => exact ⟨0, [123], rfl, Nat.zero_le _, rfl, Lib.hid rfl, by simp, Lib.hid (Below.refl _ _)⟩
  case round =>
    obtain ⟨k, acc, rfl, hk, rfl, H, hal, HB⟩ := hrel
    by_cases hkn : k < n
    · have j1 : (k : Int) < n := by omega
      obtain ⟨x, hx⟩ := get_lt HN.out hkn
      obtain ⟨b, off, rfl, hS0⟩ := (HSO.out.below HB.out).at hx
      have hlow := hS0.low
      have hs := HV.out x (List.mem_of_getElem? hx)
      have HX := Lib.hid (drop_at hx)
      have CX := Lib.hid (fun W (h : Below wr.heap.size wr W) => (show W.cell? ⟨b, off + k * 2, none⟩ = some (.string x.1) ∧ W.cell? ⟨b, off + k * 2 + 1, none⟩ = some (.string x.2) from ⟨(hS0.below h).at0 k x hx, (hS0.below h).at1 k x hx⟩))
      have cX := CX.out wr.drew (Below.refl _ _).drew
      obtain ⟨Q, hQ⟩ : ∃ Q : ByteArray, (⟨(quoteL x.2.data.toList).toArray⟩ : ByteArray) = Q := ⟨_, rfl⟩
      have HQL := Lib.hid (show Q.data.toList = quoteL x.2.data.toList by rw [← hQ])
      have hql : Q.size ≤ 5002 := by
        have h1 := quoteL_len x.2.data.toList
        have h2 : Q.size = (quoteL x.2.data.toList).length := by rw [← HQL.out, Lib.size_eq]
        have h3 : x.2.data.toList.length = x.2.size := (Lib.size_eq _).symm
        omega
      have HQ2 := Lib.hid (show ∀ W, Calls Tryz.prog 142 #[.string x.2] W fun e w' => e = .returned (.string Q) ∧ Below W.heap.size W w' from fun W => by rw [← hQ]; exact HQ.out x W hs.2)
      have hx1 : x.1.size ≤ 1000 := hs.1
      have hxl : x.1.data.toList.length = x.1.size := (Lib.size_eq _).symm
      have hQl : (quoteL x.2.data.toList).length = Q.size := by rw [← HQL.out, Lib.size_eq]
      clear hS0 hx hs hQ
      have ial : acc.length ≤ 10000000001 := by omega
      by_cases hk0 : k = 0
      · subst hk0
        have t0 : ¬ ((0 : Int) < ((0 : Nat) : Int)) := by omega
        have H2 := Lib.hid (show (acc ++ pairT x) ++ tailT (xs.drop 1) = textT xs by
          rw [← H.out, if_pos rfl]
          have := HX.out
          rw [List.drop_zero] at this
          rw [this, headT]; simp)
        obtain ⟨A, hA⟩ : ∃ A : ByteArray, (⟨acc.toArray⟩ : ByteArray) = A := ⟨_, rfl⟩
        have a1 : A.data.toList = acc := by rw [← hA]
        have a2 : A.size ≤ 10000000002 := by rw [Lib.size_eq, a1]; (try simp only [List.length_append, List.length_cons, List.length_nil]); omega
        obtain ⟨A2, h2⟩ : ∃ A2 : ByteArray, A ++ x.1 = A2 := ⟨_, rfl⟩
        obtain ⟨A3, h3⟩ : ∃ A3 : ByteArray, A2 ++ ⟨#[61]⟩ = A3 := ⟨_, rfl⟩
        obtain ⟨A4, h4⟩ : ∃ A4 : ByteArray, A3 ++ Q = A4 := ⟨_, rfl⟩
        have a3 : A2.size = A.size + x.1.size := by rw [← h2, ByteArray.size_append']
        have a4 : A3.size = A2.size + 1 := by rw [← h3, ByteArray.size_append']; rfl
        have n2 : ¬ (A.size + x.1.size > 9223372036854775807) := by omega
        have n3 : ¬ (A2.size + 1 > 9223372036854775807) := by omega
        have n4 : ¬ (A3.size + Q.size > 9223372036854775807) := by omega
        have E := Lib.hid (show A4 = ⟨(acc ++ pairT x).toArray⟩ by
          apply bytes_ext
          rw [← h4, ← h3, ← h2, ByteArray.data_append, Array.toList_append, ByteArray.data_append, Array.toList_append, ByteArray.data_append, Array.toList_append, a1, HQL.out]
          unfold pairT; simp)
        clear a1 a3 a4 
        go_wp2
        try rw [hA]
        clear hA
        go_region_held3 (fun w' => w'.cell? ⟨b, off, none⟩ = some (.string x.1) ∧ w'.cell? ⟨b, off + 1, none⟩ = some (.string x.2)) (first | exact cX | exact cQ) (first
          | (go_at_call 142
             refine (HQ2.out _).mono ?_
             rintro e wq ⟨rfl, bq⟩
             have BQ := Lib.hid ((Below.refl wr.heap.size wr).drew.trans (bq.mono (Nat.le_refl _)))
             have cQ := CX.out wq BQ.out
             clear bq))
        all_goals
          go_wp2
          go_roundw
          case rel => exact ⟨0 + 1, _, by go_num, by omega, congrArg Value.string E.out, Lib.hid (by rw [if_neg (Nat.succ_ne_zero _)]; exact H2.out), by simp only [List.length_append, pairT, List.length_cons]; omega, Lib.hid (HB.out.trans (BQ.out.mono HB.out.size))⟩
          case measure => simp [Go.RowKit.intOf]; omega
      · have t0 : (0 : Int) < k := by omega
        have H2 := Lib.hid (show (acc ++ [44] ++ pairT x) ++ tailT (xs.drop (k + 1)) = textT xs by
          rw [← H.out, if_neg hk0, HX.out, tailT]; simp)
        obtain ⟨A, hA⟩ : ∃ A : ByteArray, (⟨acc.toArray⟩ : ByteArray) ++ ⟨#[44]⟩ = A := ⟨_, rfl⟩
        have a1 : A.data.toList = (acc ++ [44]) := by rw [← hA]; rw [ByteArray.data_append, Array.toList_append]
        have a2 : A.size ≤ 10000000002 := by rw [Lib.size_eq, a1]; (try simp only [List.length_append, List.length_cons, List.length_nil]); omega
        obtain ⟨A2, h2⟩ : ∃ A2 : ByteArray, A ++ x.1 = A2 := ⟨_, rfl⟩
        obtain ⟨A3, h3⟩ : ∃ A3 : ByteArray, A2 ++ ⟨#[61]⟩ = A3 := ⟨_, rfl⟩
        obtain ⟨A4, h4⟩ : ∃ A4 : ByteArray, A3 ++ Q = A4 := ⟨_, rfl⟩
        have a3 : A2.size = A.size + x.1.size := by rw [← h2, ByteArray.size_append']
        have a4 : A3.size = A2.size + 1 := by rw [← h3, ByteArray.size_append']; rfl
        have n2 : ¬ (A.size + x.1.size > 9223372036854775807) := by omega
        have n3 : ¬ (A2.size + 1 > 9223372036854775807) := by omega
        have n4 : ¬ (A3.size + Q.size > 9223372036854775807) := by omega
        have E := Lib.hid (show A4 = ⟨((acc ++ [44]) ++ pairT x).toArray⟩ by
          apply bytes_ext
          rw [← h4, ← h3, ← h2, ByteArray.data_append, Array.toList_append, ByteArray.data_append, Array.toList_append, ByteArray.data_append, Array.toList_append, a1, HQL.out]
          unfold pairT; simp)
        clear a1 a3 a4 
        go_wp2
        try rw [hA]
        clear hA
        go_region_held3 (fun w' => w'.cell? ⟨b, off + k * 2, none⟩ = some (.string x.1) ∧ w'.cell? ⟨b, off + k * 2 + 1, none⟩ = some (.string x.2)) (first | exact cX | exact cQ) (first
          | (go_at_call 142
             refine (HQ2.out _).mono ?_
             rintro e wq ⟨rfl, bq⟩
             have BQ := Lib.hid ((Below.refl wr.heap.size wr).drew.trans (bq.mono (Nat.le_refl _)))
             have cQ := CX.out wq BQ.out
             clear bq))
        all_goals
          go_wp2
          go_roundw
          case rel => exact ⟨k + 1, _, by go_num, by omega, congrArg Value.string E.out, Lib.hid (by rw [if_neg (Nat.succ_ne_zero _)]; exact H2.out), by simp only [List.length_append, pairT, List.length_cons, List.length_nil]; omega, Lib.hid (HB.out.trans (BQ.out.mono HB.out.size))⟩
          case measure => simp [Go.RowKit.intOf]; omega
    · have j1 : (n : Int) ≤ k := by omega
      obtain rfl : k = n := by omega
      have E := Lib.hid (show (⟨acc.toArray⟩ : ByteArray) ++ ⟨#[125]⟩ = ⟨(textT xs).toArray⟩ by
        rw [snoc_str acc [125] ⟨#[125]⟩ rfl, ← H.out]
        by_cases h0 : k = 0
        · have : xs = [] := List.length_eq_zero_iff.1 (by rw [HN.out, h0])
          rw [if_pos h0, this]; rfl
        · rw [if_neg h0, List.drop_eq_nil_of_le (by rw [HN.out]; omega)]; rfl)
      go_wp2
      go_ret
      exact ⟨ret_s E.out, HB.out⟩
end Go.Proofs.YtbdnonphkobkoaaGreat
