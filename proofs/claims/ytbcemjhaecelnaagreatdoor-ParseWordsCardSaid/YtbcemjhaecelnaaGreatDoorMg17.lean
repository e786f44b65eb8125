import Derived.Test.YtbcemjhaecelnaaGreatDoorMg16
import Derived.Test.YtbcemjhaecelnaaGreatDoorMg14
import Derived.Deep.LoopGhost
import Derived.Laws.OwnMore
section
set_option maxHeartbeats 4000000
set_option maxRecDepth 100000
section
namespace Go.Proofs.YtbcemjhaecelnaaGreatDoor.Par
open Go.RowKit Go.Lib
open Go.Proofs.YtbcemjhaecelnaaGreatDoor.Sto
theorem enc_low : ∀ n : Nat, n < 128 -> Utf8.encode (n : Int) = ⟨#[UInt8.ofNat n]⟩ := by decide +kernel
theorem enc_byte (c : UInt8) (h : c.toNat < 128) : Utf8.encode (c.toNat : Int) = ⟨#[c]⟩ := by
 rw [enc_low c.toNat h]; simp
theorem eq_one (s : ByteArray) (c : UInt8) : (s.toList == [c]) = (s.data.toList == [c]) := by rw [ByteArray.toList_eq]
theorem zgm (s : ByteArray) (ds : List UInt8) (hd : ∀ c ∈ ds, c.toNat < 128) (hl : ds.length <= 100) (w : World) :
 Calls Tryz.prog 137 #[.string s, .string ⟨ds.toArray⟩] w fun e w' => e = .returned (.bool (ds.any fun c => s.data.toList == [c])) /\ Below w.heap.size w w' := by
 obtain ⟨t, ht⟩ : ∃ t : ByteArray, t = ⟨ds.toArray⟩ := ⟨_, rfl⟩
 have htd : t.data.toList = ds := by rw [ht]
 have htz : t.size = ds.length := by rw [ht]; simp [ByteArray.size]
 rw [<- ht]
 obtain ⟨R, hR⟩ : ∃ R, (ds.any fun c => s.data.toList == [c]) = R := ⟨_, rfl⟩
 have HR := zh hR
 have HTD := zh htd
 have HTZ := zh htz
 have HD := zh hd
 rw [hR]
 have htz2 : t.size <= 100 := by omega
 clear hR htd htz hd hl ht
 go_enter Tryz.func137, Tryz.ntmps137
 go_wp2
 go_loopw [6] (fun _ wr => ∃ (pos : Nat), wr.heap[w.heap.size]? = some (.stringIter t pos) /\ Below w.heap.size w wr /\ Hid (((ds.drop pos).any fun c => s.data.toList == [c]) = R) /\ pos <= t.size) (fun _ wr => t.size - wr.iterPos w.heap.size)
 case atStart => exact ⟨0, World.iter_heap w t 0, (Below.refl _ _).alloc (Nat.le_refl _) _, HR.out, Nat.zero_le _⟩
 case round =>
  obtain ⟨pos, hit, hbw, H, hps⟩ := hrel
  have hpos0 := zac hit
  by_cases hp : pos < t.size
  ·obtain ⟨c, hc⟩ : ∃ c, ds[pos]? = some c := ⟨_, List.getElem?_eq_getElem (by rw [<- HTZ.out]; exact hp)⟩
   have hcd := HD.out c (List.mem_of_getElem? hc)
   have hdr : ds.drop pos = c :: ds.drop (pos + 1) := by
    obtain ⟨hp2, e⟩ := List.getElem?_eq_some_iff.1 hc
    rw [List.drop_eq_getElem_cons hp2, e]
   have hdec : Utf8.decode t pos = (c.toNat, 1) := by
    have h1 := Lib.decodeL_drop t pos
    rw [HTD.out, hdr, zbq c _ hcd] at h1
    exact h1.symm
   have hnx : ∀ ty, (Instr.next (.pointer (some ⟨w.heap.size, 0, none⟩)) true ty).run Tryz.prog wr = _ := fun ty => Lib.run_next_any_at wr w.heap.size t pos ty hit hp
   rw [hdec] at hnx
   have hit2 := Lib.iterAt_heap wr w.heap.size t pos (pos + 1) hit
   have hbw2 := Lib.below_iterAt hbw (k := w.heap.size) (Nat.le_refl _) t (pos + 1)
   have H2 := zh (show ((s.data.toList == [c]) || (ds.drop (pos + 1)).any fun c => s.data.toList == [c]) = R by rw [<- H.out, hdr]; rfl)
   have henc := enc_byte c hcd
   have heq := eq_one s c
   obtain ⟨b, hb⟩ : ∃ b, (s.data.toList == [c]) = b := ⟨_, rfl⟩
   rw [hb] at H2 heq
   clear hdec hcd hc hdr hb
   cases b with
   | true =>
     have H3 : Hid (true = R) := by show _ = _; rw [<- H2.out]; rfl
     clear H2
     go_wp2
     go_ret
     exact ⟨by rw [H3.out]; rfl, hbw2⟩
   | false =>
     have H3 : Hid (((ds.drop (pos + 1)).any fun c => s.data.toList == [c]) = R) := by show _ = _; rw [<- H2.out]; rfl
     clear H2
     go_wp2
     go_roundw
     case rel => exact ⟨pos + 1, hit2, hbw2, H3, by omega⟩
     case measure => rw [zac hit2, hpos0]; omega
  ·have hnx : ∀ ty, (Instr.next (.pointer (some ⟨w.heap.size, 0, none⟩)) true ty).run Tryz.prog wr = _ := fun ty => Lib.run_next_end_at wr w.heap.size t pos ty hit hp
   have H2 : Hid (false = R) := by
    show _ = _
    rw [<- H.out, List.drop_eq_nil_of_le (by rw [<- HTZ.out]; omega)]; rfl
   go_wp2
   go_ret
   exact ⟨by rw [H2.out]; rfl, hbw⟩
theorem cmp_sign : ∀ s ∈ signs, Fix.comparesF ⟨s.toArray⟩ = cmpS s := by decide +kernel
theorem levelS_any (s : List UInt8) (hs : s ∈ signs) (w : World) :
 Calls Tryz.prog 113 #[.string ⟨s.toArray⟩] w fun e w' => e = .returned (.int .i64 (levelS s : Nat)) /\ Below w.heap.size w w' := by
 have hz : (⟨s.toArray⟩ : ByteArray).size <= maxLen := by have := (sign_le s hs).2; unfold maxLen; simp [ByteArray.size]; omega
 have HC := zh (fun W => (Fix.comp_any ⟨s.toArray⟩ W hz).mono (R' := fun e w' => e = .returned (.bool (cmpS s)) /\ Below W.heap.size W w') (fun e w' ⟨h1, h2⟩ => ⟨by rw [h1, cmp_sign s hs], h2⟩))
 have HA := zh (fun W => (zgm ⟨s.toArray⟩ [43, 45] (by decide) (by decide) W).mono (R' := fun e w' => e = .returned (.bool (s == [43] || s == [45])) /\ Below W.heap.size W w') (fun e w' ⟨h1, h2⟩ => ⟨by rw [h1]; simp, h2⟩))
 have HB := zh (fun W => (zgm ⟨s.toArray⟩ [42, 47, 37] (by decide) (by decide) W).mono (R' := fun e w' => e = .returned (.bool (s == [42] || s == [47] || s == [37])) /\ Below W.heap.size W w') (fun e w' ⟨h1, h2⟩ => ⟨by rw [h1]; simp [Bool.or_assoc], h2⟩))
 unfold levelS
 generalize cmpS s = p at HC ⊢
 generalize (s == [43] || s == [45]) = q at HA ⊢
 generalize (s == [42] || s == [47] || s == [37]) = r at HB ⊢
 clear hz hs
 cases p with
 | true =>
   go_enter Tryz.func113, Tryz.ntmps113
   go_wp2_with fail
   refine (HC.out w).mono ?_
   rintro e w1 ⟨rfl, b1⟩
   go_wp2
   go_ret
   exact ⟨rfl, b1⟩
 | false =>
   cases q with
   | true =>
     go_enter Tryz.func113, Tryz.ntmps113
     go_wp2_with fail
     refine (HC.out w).mono ?_
     rintro e w1 ⟨rfl, b1⟩
     go_wp2_with fail
     refine (HA.out w1).mono ?_
     rintro e w2 ⟨rfl, b2⟩
     have HB2 := zh (b1.trans (b2.mono b1.size))
     clear b1 b2
     go_wp2
     go_ret
     exact ⟨rfl, HB2.out⟩
   | false =>
     go_enter Tryz.func113, Tryz.ntmps113
     go_wp2_with fail
     refine (HC.out w).mono ?_
     rintro e w1 ⟨rfl, b1⟩
     go_wp2_with fail
     refine (HA.out w1).mono ?_
     rintro e w2 ⟨rfl, b2⟩
     have HB2 := zh (b1.trans (b2.mono b1.size))
     clear b1 b2
     go_wp2_with fail
     refine (HB.out w2).mono ?_
     rintro e w3 ⟨rfl, b3⟩
     have HB3 := zh (HB2.out.trans (b3.mono HB2.out.size))
     clear b3
     cases r with
     | true =>
       go_wp2
       go_ret
       exact ⟨rfl, HB3.out⟩
     | false =>
       go_wp2
       go_ret
       exact ⟨rfl, HB3.out⟩
theorem level_any (bd : Nat) (l : List Tq) (w : World) (h : Rd w bd l) :
 Calls Tryz.prog 90 #[.pointer (some ⟨bd, 0, none⟩)] w fun e w' => e = .returned (.int .i64 (levelT l : Nat)) /\ Rd w' bd l /\ w.grownBy w' (some bd) := by
 have HRD := zh h
 obtain ⟨o, c, h1, hc, ⟨hm, hok⟩, h2⟩ := h
 have hcell : w.cell? ⟨bd, 0, none⟩ = some (.slice o l.length c) := by simp [World.cell?, h1]
 cases l with
 | nil =>
   have HC := zh hcell
   clear h1 h2 hc hm hcell hok
   have hcell : w.cell? ⟨bd, 0, none⟩ = some (.slice o 0 c) := HC.out
   go_enter Tryz.func90, Tryz.ntmps90
   go_wp2
   go_ret
   exact ⟨rfl, HRD.out, grown_refl _ _⟩
 | cons s t =>
   rcases h2 with h2 | ⟨b, off, rfl, hb, hs⟩
   ·cases h2
   have c0 := hs.at0 0 s rfl
   have c1 := hs.at2 0 s rfl
   simp only [Nat.zero_mul, Nat.add_zero] at c0 c1
   obtain ⟨n, hn⟩ : ∃ n, (s :: t).length = n := ⟨_, rfl⟩
   rw [hn] at hcell hm
   have h0 : 0 < n := by rw [<- hn]; simp
   have i0 : (0 : Int) < n := by omega
   by_cases hk : s.1 = 5
   ·have HL := zh (levelS_any s.2 ((hok s (by simp)).sig hk) w)
    have HE := zh (show levelT (s :: t) = levelS s.2 by show (if s.1 = 5 then _ else _) = _; rw [if_pos hk])
    rw [hk] at c0
    rw [HE.out]
    clear hn hs h1 hb hk hok hc
    go_enter Tryz.func90, Tryz.ntmps90
    go_wp2_with fail
    refine HL.out.mono ?_
    rintro e w1 ⟨rfl, b1⟩
    go_wp2
    go_ret
    exact ⟨rfl, HRD.out.below b1, grown_of_below b1 _⟩
   ·have HE := zh (show levelT (s :: t) = 0 by show (if s.1 = 5 then _ else _) = _; rw [if_neg hk])
    have hne : ((s.1 : Int) != 5) = true := by simp; omega
    rw [HE.out]
    clear hn hs h1 hb hk hok hc
    go_enter Tryz.func90, Tryz.ntmps90
    go_wp2
    all_goals
     go_ret
     exact ⟨rfl, HRD.out, grown_refl _ _⟩
theorem str_eq (s : ByteArray) (l : List UInt8) : (s.toList == l) = (s.data.toList == l) := by rw [ByteArray.toList_eq]
theorem zeg (s : ByteArray) (w : World) : Calls Tryz.prog 26 #[.string s] w fun e w' => e = .returned (.bool (zdv s.data.toList)) /\ w = w' := by
 have h1 := str_eq s [116, 111, 112, 107]
 have h2 := str_eq s [113, 117, 97, 110, 116, 105, 108, 101]
 unfold zdv
 generalize (s.data.toList == [116, 111, 112, 107]) = p at h1 ⊢
 generalize (s.data.toList == [113, 117, 97, 110, 116, 105, 108, 101]) = q at h2 ⊢
 go_enter Tryz.func26, Tryz.ntmps26
 cases p <;> cases q
 all_goals
  go_wp2
  go_ret
  exact ⟨rfl, rfl⟩
theorem zgF (s : ByteArray) (w : World) : Calls Tryz.prog 9 #[.string s] w fun e w' => e = .returned (.bool (aggB s.data.toList)) /\ w = w' := by
 have h1 := str_eq s [115, 117, 109]
 have h2 := str_eq s [109, 105, 110]
 have h3 := str_eq s [109, 97, 120]
 have h4 := str_eq s [99, 111, 117, 110, 116]
 have h5 := str_eq s [97, 118, 103]
 have HN := zh (zeg s w)
 unfold aggB
 generalize (s.data.toList == [115, 117, 109]) = p1 at h1 ⊢
 generalize (s.data.toList == [109, 105, 110]) = p2 at h2 ⊢
 generalize (s.data.toList == [109, 97, 120]) = p3 at h3 ⊢
 generalize (s.data.toList == [99, 111, 117, 110, 116]) = p4 at h4 ⊢
 generalize (s.data.toList == [97, 118, 103]) = p5 at h5 ⊢
 generalize zdv s.data.toList = q at HN ⊢
 go_enter Tryz.func9, Tryz.ntmps9
 cases p1 with
 | true => go_wp2; go_ret; exact ⟨rfl, rfl⟩
 | false =>
 cases p2 with
 | true => go_wp2; go_ret; exact ⟨rfl, rfl⟩
 | false =>
 cases p3 with
 | true => go_wp2; go_ret; exact ⟨rfl, rfl⟩
 | false =>
 cases p4 with
 | true => go_wp2; go_ret; exact ⟨rfl, rfl⟩
 | false =>
 cases p5 with
 | true => go_wp2; go_ret; exact ⟨rfl, rfl⟩
 | false =>
 go_wp2_with fail
 refine HN.out.mono ?_
 rintro e w1 ⟨rfl, rfl⟩
 go_wp2
 go_ret
 exact ⟨by simp, rfl⟩
theorem zhS (s : ByteArray) (w : World) : Calls Tryz.prog 134 #[.string s] w fun e w' => e = .returned (.bool (resB s.data.toList)) /\ w = w' := by
 have h1 := str_eq s [111, 114, 100, 101, 114]
 have h2 := str_eq s [108, 105, 109, 105, 116]
 have h3 := str_eq s [111, 102, 102, 115, 101, 116]
 have h4 := str_eq s [97, 115, 99]
 have h5 := str_eq s [100, 101, 115, 99]
 have h6 := str_eq s [111, 110]
 have h7 := str_eq s [105, 103, 110, 111, 114, 105, 110, 103]
 have h8 := str_eq s [98, 121]
 have h9 := str_eq s [119, 105, 116, 104, 111, 117, 116]
 unfold resB zdw zbD zbd wAsc zde wOn wIgn wBy za0
 generalize (s.data.toList == [111, 114, 100, 101, 114]) = p1 at h1 ⊢
 generalize (s.data.toList == [108, 105, 109, 105, 116]) = p2 at h2 ⊢
 generalize (s.data.toList == [111, 102, 102, 115, 101, 116]) = p3 at h3 ⊢
 generalize (s.data.toList == [97, 115, 99]) = p4 at h4 ⊢
 generalize (s.data.toList == [100, 101, 115, 99]) = p5 at h5 ⊢
 generalize (s.data.toList == [111, 110]) = p6 at h6 ⊢
 generalize (s.data.toList == [105, 103, 110, 111, 114, 105, 110, 103]) = p7 at h7 ⊢
 generalize (s.data.toList == [98, 121]) = p8 at h8 ⊢
 generalize (s.data.toList == [119, 105, 116, 104, 111, 117, 116]) = p9 at h9 ⊢
 go_enter Tryz.func134, Tryz.ntmps134
 cases p1 with
 | true => go_wp2; go_ret; exact ⟨rfl, rfl⟩
 | false =>
 cases p2 with
 | true => go_wp2; go_ret; exact ⟨rfl, rfl⟩
 | false =>
 cases p3 with
 | true => go_wp2; go_ret; exact ⟨rfl, rfl⟩
 | false =>
 cases p4 with
 | true => go_wp2; go_ret; exact ⟨rfl, rfl⟩
 | false =>
 cases p5 with
 | true => go_wp2; go_ret; exact ⟨rfl, rfl⟩
 | false =>
 cases p6 with
 | true => go_wp2; go_ret; exact ⟨rfl, rfl⟩
 | false =>
 cases p7 with
 | true => go_wp2; go_ret; exact ⟨rfl, rfl⟩
 | false =>
 cases p8 with
 | true => go_wp2; go_ret; exact ⟨rfl, rfl⟩
 | false =>
 cases p9 with
 | true => go_wp2; go_ret; exact ⟨rfl, rfl⟩
 | false => go_wp2; go_ret; exact ⟨rfl, rfl⟩
theorem fn_is (s : ByteArray) : decide (Win.fnF s < 8) = fnS s.data.toList := by
 rcases Win.fn_cases s with ⟨k, hk, rfl⟩ | ⟨h8, hno⟩
 ·rw [Win.fn_nm k hk]
  have : ∀ k, k < 8 -> fnS (Win.nmOf k).data.toList = true := by decide +kernel
  rw [this k hk]; simp [hk]
 ·rw [h8]
  have : fnS s.data.toList = false := by
   refine Bool.eq_false_iff.2 fun h => ?_
   have key : ∃ k, k < 8 /\ s.data.toList = (Win.nmOf k).data.toList := by
    unfold fnS at h
    simp only [Bool.or_eq_true, beq_iff_eq] at h
    rcases h with ((((((h | h) | h) | h) | h) | h) | h) | h
    ·exact ⟨0, by decide, h⟩
    ·exact ⟨1, by decide, h⟩
    ·exact ⟨2, by decide, h⟩
    ·exact ⟨3, by decide, h⟩
    ·exact ⟨4, by decide, h⟩
    ·exact ⟨5, by decide, h⟩
    ·exact ⟨6, by decide, h⟩
    ·exact ⟨7, by decide, h⟩
   obtain ⟨k, hk, e⟩ := key
   have e2 : s = Win.nmOf k := by cases s with | mk a => cases hn : Win.nmOf k with | mk b => rw [hn] at e; cases a; cases b; simp at e; subst e; rfl
   rw [e2, Win.fn_nm k hk] at h8
   omega
  rw [this]; rfl
theorem zhT (s : ByteArray) (w : World) : Calls Tryz.prog 132 #[.string s] w fun e w' => e = .returned (.bool (fnS s.data.toList)) /\ w = w' :=
 (Win.fn_any s w).mono fun e w' h => ⟨by rw [h.1, fn_is], h.2.symm⟩
end Go.Proofs.YtbcemjhaecelnaaGreatDoor.Par
end
section
namespace Go.Proofs.YtbcemjhaecelnaaGreatDoor.Par
open Go.RowKit Go.Lib
open Go.Proofs.YtbcemjhaecelnaaGreatDoor.Sto
theorem ze7 {α : Type} (enc : α -> List Value) (k : Nat) (hk : ∀ x, (enc x).length = k) : ∀ (xs : List α) (j : Nat) (x : α), xs[j]? = some x -> ∀ (i : Nat) v, (enc x)[i]? = some v -> (xs.flatMap enc)[j * k + i]? = some v
 | [], j, x, h, _, _, _ => by simp at h
 | y :: ys, 0, x, h, i, v, hv => by
   simp at h; subst h
   have hl := (List.getElem?_eq_some_iff.1 hv).1
   rw [List.flatMap_cons, Nat.zero_mul, Nat.zero_add, List.getElem?_append_left hl]; exact hv
 | y :: ys, j + 1, x, h, i, v, hv => by
   have := ze7 enc k hk ys j x (by simpa using h) i v hv
   have hl := hk y
   rw [List.flatMap_cons, List.getElem?_append_right (by rw [hl, Nat.succ_mul]; omega), hl, show (j + 1) * k + i - k = j * k + i by rw [Nat.succ_mul]; omega]
   exact this
theorem zdy {w : World} {B e k n c : Nat} {o : Option Addr} {α : Type} (enc : α -> List Value) (hk : ∀ x, (enc x).length = k) {xs : List α} {P : Nat -> Prop} (h : w.ownsRow B e k (.slice o n c) xs.length (xs.flatMap enc)) (hP : ∀ b, B <= b -> P b) : za2 w P o k (xs.map enc) := by
 rcases h.2 with ⟨e, h0⟩ | ⟨g, cap, cur, e, hB, hg, _⟩
 ·exact .inl (by rw [List.eq_nil_of_length_eq_zero h0]; rfl)
 ·injection e with e1 _ _
  subst e1
  refine .inr ⟨g, 0, rfl, hP g hB, (Array.getElem?_eq_some_iff.1 hg).1, fun j cs hcs i v hv => ?_⟩
  rw [List.getElem?_map] at hcs
  cases hx : xs[j]? with
  | none => rw [hx] at hcs; cases hcs
  | some x =>
    rw [hx] at hcs
    obtain rfl := Option.some.inj hcs
    have := h.cells (g := g) rfl (j * k + i) v (ze7 enc k hk xs j x hx i v hv)
    simpa [Addr.add_lit] using this
theorem zhU {w : World} {B e k n c N : Nat} {o : Option Addr} {vs : List Value} (h : w.ownsRow B e k (.slice o n c) N vs) : N <= c := by
 rcases h.2 with ⟨e, h0⟩ | ⟨g, cap, cur, e, hB, hg, hle, _⟩
 ·rw [h0]; exact Nat.zero_le _
 ·injection e with _ _ e3
  subst e3; exact hle
theorem own_shape {w : World} {B e size n : Nat} {v : Value} {xs : List Value} (h : w.ownsRow B e size v n xs) : ∃ o c, v = .slice o n c := by
 rcases h.2 with ⟨rfl, rfl⟩ | ⟨g, cap, cur, rfl, _⟩
 ·exact ⟨_, _, rfl⟩
 ·exact ⟨_, _, rfl⟩
theorem grown_own {a b c : World} {r : Option Nat} {v : Value} (h : a.grownBy b r) (g : b.grownBy c v.ownBlock) (hv : ∀ k, v.ownBlock = some k -> a.heap.size <= k) : a.grownBy c r :=
 ⟨g.os.trans h.os, g.tape.trans h.tape, g.output.trans h.output, Nat.le_trans h.size g.size, fun i hi hr => (g.block i (Nat.lt_of_lt_of_le hi h.size) (fun e => by have := hv i e.symm; omega)).trans (h.block i hi hr)⟩
theorem Rd.grownOwn {w w' : World} {bd : Nat} {l : List Tq} {v : Value} (h : Rd w bd l) (g : w.grownBy w' v.ownBlock) (hv : ∀ k, v.ownBlock = some k -> bd < k) : Rd w' bd l :=
 h.keep fun k hk => g.block k (Nat.lt_of_le_of_lt hk h.lt) (fun e => by have := hv k e.symm; omega)
theorem own_past {w w' : World} {B e size n bd : Nat} {v : Value} {xs : List Value} (h : w.ownsRow B e size v n xs) (hg : w.grownBy w' (some bd)) (hb : bd < B) : w'.ownsRow B e size v n xs := by
 refine h.kept hg ?_
 cases ho : v.ownBlock with
 | none => exact .inl rfl
 | some g =>
   have := (h.lt g ho).1
   exact .inr (by simp; omega)
theorem cell_1k (w : World) (v : Value) (t : TypeId) (k : Nat) (hk : w.heap.size = k) : ∀ j u, [v][j]? = some u -> (w.alloc (.cells #[v] t)).cell? ((⟨k, 0, none⟩ : Addr).add j) = some u := by
 subst hk
 intro j u hj
 match j, hj with
 | 0, hj => simp at hj; subst hj; simp [Addr.add]
 | j + 1, hj => simp at hj
theorem infoS : (Tryz.prog.info? 9).map (fun i => (i.zero, i.size, i.bytes)) = some (some (.string ⟨#[]⟩), 1, 16) := by kernel_rfl
theorem zdG (s : ByteArray) : ∀ v ∈ [Value.string s], v.oneCell' = true := by
 intro v hv; simp at hv; subst hv; rfl
def zfF (w : World) (bd : Nat) (r : Option (List ByteArray × List Tq)) (e : Ending) (w' : World) : Prop := match r with
 | none => (∃ o n c, e = .returned (.tuple #[.slice o n c, .bool false])) /\ w.grownBy w' (some bd)
 | some (xs, m) => (∃ o c, e = .returned (.tuple #[.slice o xs.length c, .bool true]) /\ xs.length <= c /\ za2 w' (fun b => w.heap.size <= b) o 1 (xs.map encN)) /\ Rd w' bd m /\ w.grownBy w' (some bd)
def ze8 (w0 : World) (bd : Nat) (stop : List UInt8) (T : Option (List ByteArray × List Tq)) (k : Nat) (v : Value) (wr : World) : Prop := ∃ (l : List Tq) (acc : List ByteArray) (n : Nat), l.length = k /\ k < n /\ Rd wr bd l /\ w0.grownBy wr (some bd) /\ wr.ownsRow w0.heap.size 9 1 v acc.length (acc.flatMap encN) /\ zaE zaZ stop n l acc = T /\ acc.length + l.length <= 1000000 /\ bd < w0.heap.size
theorem zgn (bd : Nat) (l : List Tq) (stop : ByteArray) (w : World) (h : Rd w bd l) :
 Calls Tryz.prog 138 #[.pointer (some ⟨bd, 0, none⟩), .string stop, .func (.func 130) #[.pointer (some ⟨bd, 0, none⟩)] #[]] w (zfF w bd (zbe zaZ stop.data.toList l)) := by
 obtain ⟨ie, hi, hz0, hz1, hz2⟩ := info_parts infoS
 have hfar := h.lt
 cases hst : isT 5 stop.data.toList l with
 | true =>
   have HT := zh (show zbe zaZ stop.data.toList l = some ([], l.tail) by unfold zbe; rw [if_pos hst])
   have HS := zh (za9 bd l stop hst w h)
   rw [HT.out]
   clear h hst
   go_enter Tryz.func138, Tryz.ntmps138
   go_wp2_with fail
   refine HS.out.mono ?_
   rintro e w1 ⟨rfl, hr, hg⟩
   have HR := zh (And.intro hr hg)
   clear hr hg
   go_wp2
   go_ret2
   exact ⟨⟨none, 0, rfl, Nat.le_refl _, .inl rfl⟩, HR.out⟩
 | false =>
   obtain ⟨T, hT⟩ : ∃ T, zbe zaZ stop.data.toList l = T := ⟨_, rfl⟩
   have HST : ze8 w bd stop.data.toList T l.length (.slice none 0 0) w := ⟨l, [], l.length + 1, rfl, by omega, h, grown_refl _ _, World.ownsRow_nil _ _ _ _, by rw [<- hT]; unfold zbe; rw [if_neg (by rw [hst]; simp)], by have := h.few; simpa using this, hfar⟩
   have HS := zh (zbR bd l stop hst w h)
   rw [hT]
   clear h hst hT
   go_enter Tryz.func138, Tryz.ntmps138
   go_wp2_with fail
   refine HS.out.mono ?_
   rintro e w1 ⟨rfl, rfl⟩
   go_wp2_with fail
   go_loopg [8] l.length (fun k v wr => ze8 w bd stop.data.toList T k v wr)
   case atStart => exact HST
   case round =>
    clear HST
    obtain ⟨l2, acc, n, rfl, hn, hr, hg, hown, hTT, hfew, _⟩ := hrel
    obtain ⟨n, rfl⟩ : ∃ k, n = k + 1 := ⟨n - 1, by omega⟩
    rw [zaE] at hTT
    have HR := zh hr
    have HG := zh hg
    have HO := zh hown
    obtain ⟨ov, cv, hv⟩ := own_shape hown
    cases hk : isK 1 l2 with
    | false =>
      have hnp : zaZ l2 = none := by
       cases l2 with
       | nil => rfl
       | cons x m => show (if x.1 = 1 then _ else none) = _; rw [if_neg]; simpa [isK] using hk
      rw [hnp] at hTT
      have HT := zh (show none = T from hTT)
      have HN := zh (zgE bd l2 hk _ hr)
      clear hr hg hown hTT hk hnp hv
      go_wp2_with fail
      refine HN.out.mono ?_
      rintro e w2 ⟨rfl, rfl⟩
      go_wp2
      go_ret2
      rw [<- HT.out]
      exact ⟨⟨_, _, _, rfl⟩, HG.out⟩
    | true =>
      obtain ⟨x, m, rfl, hx⟩ := zaN hk
      have hnp : zaZ (x :: m) = some (bz x.2, m) := by show (if x.1 = 1 then _ else none) = _; rw [if_pos hx]
      rw [hnp] at hTT
      dsimp only at hTT
      have HN := zh (zfE bd x m hx _ hr)
      have HT := zh hTT
      obtain ⟨tx, htx⟩ : ∃ tx : ByteArray, bz x.2 = tx := ⟨_, rfl⟩
      have HTX := zh htx
      have hsz := hg.size
      have hfm : acc.length <= 1000000 := by simp at hfew; omega
      clear hr hg hown hTT hk hnp hx htx
      subst hv
      go_wp2_with fail
      refine HN.out.mono ?_
      rw [show (⟨x.2.toArray⟩ : ByteArray) = tx from HTX.out]
      rintro e w2 ⟨rfl, hr2, hg2⟩
      have HR2 := zh hr2
      have HG2 := zh (grown_trans HG.out hg2)
      have HO2 := zh ((own_past HO.out hg2 hfar).alloc (Obj.cells #[.string tx] 9))
      have hsz2 := hg2.size
      clear hr2 hg2
      go_wp2_with (at_builtin; go_must (refine wpList_append_own _ rfl _ _ 23 rfl w.heap.size 9 ie (.string ⟨#[]⟩) 1 16 Tryz.underlying23 hi hz0 hz1 hz2 rfl (by decide) _ _ _ rfl HO2.out ⟨w2.heap.size, 0, none⟩ 1 1 [.string tx] rfl rfl (cell_1k _ _ _ _ rfl) (zdG _) (by unfold maxLen; omega) (by omega) (by simp; omega) ?_); intro v' w5 hown' hgrow' hnil'; have HO5 := zh hown'; have HG5 := zh (grown_own (grown_alloc HG2.out (Obj.cells #[.string tx] 9)) hgrow' (fun k hk => (HO2.out.lt k hk).1)); have HR5 := zh ((HR2.out.alloc (Obj.cells #[.string tx] 9)).grownOwn hgrow' (fun k hk => Nat.lt_of_lt_of_le hfar (HO2.out.lt k hk).1)); clear hown' hgrow' hnil')
      have HO6 := zh (show w5.ownsRow w.heap.size 9 1 v' (acc ++ [tx]).length ((acc ++ [tx]).flatMap encN) by
       rw [List.length_append, List.flatMap_append]; exact HO5.out)
      clear HO5
      cases hc : isT 5 [44] m with
      | true =>
        have HT2 := zh (show zaE zaZ stop.data.toList n m.tail (acc ++ [tx]) = T by
         have := HT.out; rw [HTX.out, if_pos hc] at this; exact this)
        have HSG := zh (za9 bd m ⟨#[44]⟩ hc w5 HR5.out)
        have hml := zaw hc
        clear hc
        go_wp2_with fail
        refine HSG.out.mono ?_
        rintro e w6 ⟨rfl, hr6, hg6⟩
        have HL := zh (show ze8 w bd stop.data.toList T m.tail.length v' w6 from ⟨m.tail, acc ++ [tx], n, rfl, by simp at hn; omega, hr6, grown_trans HG5.out hg6, own_past HO6.out hg6 hfar, HT2.out, by simp at hfew ⊢; omega, hfar⟩)
        clear hr6 hg6
        go_wp2
        go_roundg m.tail.length
        case measure => simp; omega
        case rel => exact HL.out
      | false =>
        have HSG := zh (zbR bd m ⟨#[44]⟩ hc w5 HR5.out)
        obtain ⟨ov2, cv2, hv2⟩ := own_shape HO6.out
        subst hv2
        cases hs : isT 5 stop.data.toList m with
        | true =>
          have HT2 := zh (show some (acc ++ [tx], m.tail) = T by
           have := HT.out; rw [HTX.out, if_neg (by rw [hc]; simp), if_pos hs] at this; exact this)
          have HSH := zh (za9 bd m stop hs w5 HR5.out)
          clear hc hs
          go_wp2_with fail
          refine HSG.out.mono ?_
          rintro e w6 ⟨rfl, rfl⟩
          go_wp2_with fail
          refine HSH.out.mono ?_
          rintro e w6 ⟨rfl, hr6, hg6⟩
          have HCP := zh (zhU (own_past HO6.out hg6 hfar))
          have HE := zh (show za2 w6 (fun b => w.heap.size <= b) ov2 1 ((acc ++ [tx]).map encN) /\ Rd w6 bd m.tail /\ w.grownBy w6 (some bd) from ⟨zdy encN (fun _ => rfl) (own_past HO6.out hg6 hfar) (fun _ h => h), hr6, grown_trans HG5.out hg6⟩)
          clear hr6 hg6
          go_wp2
          go_ret2
          rw [<- HT2.out]
          exact ⟨⟨_, _, by rw [List.length_append]; rfl, HCP.out, HE.out.1⟩, HE.out.2⟩
        | false =>
          have HT2 := zh (show none = T by
           have := HT.out; rw [HTX.out, if_neg (by rw [hc]; simp), if_neg (by rw [hs]; simp)] at this; exact this)
          have HSH := zh (zbR bd m stop hs w5 HR5.out)
          clear hc hs
          go_wp2_with fail
          refine HSG.out.mono ?_
          rintro e w6 ⟨rfl, rfl⟩
          go_wp2_with fail
          refine HSH.out.mono ?_
          rintro e w6 ⟨rfl, rfl⟩
          go_wp2
          go_ret2
          rw [<- HT2.out]
          exact ⟨⟨_, _, _, rfl⟩, HG5.out⟩
end Go.Proofs.YtbcemjhaecelnaaGreatDoor.Par
end
end
