/- The walk of the statement on rows that are less than a number, and those that are not. -/
import Derived.Test.YtiedhlcgdfdjhaaGk
namespace Go.Proofs.Ytiedhlcgdfdjhaa.Vec
open Go.RowKit

theorem do_cmp {s : ByteArray} {f : Int} {q : Bool} (hs : Fix.signOf s = some (f, q)) (hc : Fix.cmpB f q = true) {a b : Int} (ha : Fix.rgt a) (hb : Fix.rgt b) : Fix.doF s a b = (if Fix.holdsF f q a b then 1 else 0, 0) := by
  unfold Fix.doF
  rw [hs]
  simp only
  rw [if_pos ⟨ha, hb⟩, if_pos hc]
  split <;> rfl
theorem isOp_of {s : ByteArray} {f : Int} {q : Bool} (hs : Fix.signOf s = some (f, q)) (hc : Fix.cmpB f q = true) : isOpB s = true := by
  unfold isOpB
  rw [do_cmp hs hc (by decide) (by decide)]; rfl
theorem comp_of {s : ByteArray} {f : Int} {q : Bool} (hs : Fix.signOf s = some (f, q)) (hc : Fix.cmpB f q = true) : Fix.comparesF s = true := by
  unfold Fix.comparesF
  rw [hs]; exact hc
def lessV (v : Int) (x : Rw) : Bool := decide (x.2 < v)
theorem lt_holds (a b : Int) : Fix.holdsF 60 false a b = decide (a < b) := by unfold Fix.holdsF; simp
theorem ge_holds (a b : Int) : Fix.holdsF 62 true a b = !decide (a < b) := by
  unfold Fix.holdsF
  rw [if_neg (by decide), if_pos rfl, Bool.eq_iff_iff]
  simp
  omega
theorem gt_holds (a b : Int) : Fix.holdsF 62 false a b = decide (b < a) := by unfold Fix.holdsF; simp
theorem splits_plain {a : List Rw} {v : Int} (ha : rightR a = true) (hv : Fix.rgt v) : scaleR ⟨#[60]⟩ a v false = (a.filter (lessV v), 0) ∧ scaleR ⟨#[62, 61]⟩ a v false = (a.filter (fun x => !lessV v x), 0) ∧ scaleR ⟨#[62]⟩ a v true = (a.filter (lessV v), 0) := by
  have hr := (right_fit ha).2.1
  refine ⟨scale_cmp (isOp_of Fix.sign_lt (by decide)) (comp_of Fix.sign_lt (by decide)) hv ha _ fun x hx => ?_, scale_cmp (isOp_of Fix.sign_ge (by decide)) (comp_of Fix.sign_ge (by decide)) hv ha _ fun x hx => ?_, scale_cmp (isOp_of Fix.sign_gt (by decide)) (comp_of Fix.sign_gt (by decide)) hv ha _ fun x hx => ?_⟩
  · have := do_cmp Fix.sign_lt (by decide) (hr x hx).2 hv
    rw [lt_holds] at this; exact this
  · have := do_cmp Fix.sign_ge (by decide) (hr x hx).2 hv
    rw [ge_holds] at this; exact this
  · have := do_cmp Fix.sign_gt (by decide) hv (hr x hx).2
    rw [gt_holds] at this; exact this
theorem splits_tidy {a : List Rw} (p : Rw → Bool) (ha : rightR a = true) : tidyR (a.filter p ++ a.filter (fun x => !p x)) = (a, 0) := by
  obtain ⟨h1, h2, h3⟩ := right_fit ha
  have hp : a.Perm (a.filter p ++ a.filter (fun x => !p x)) := (List.filter_append_perm p a).symm
  have hf : fitR (a.filter p ++ a.filter (fun x => !p x)) = true := by
    unfold fitR
    rw [Bool.and_eq_true, decide_eq_true_eq, List.all_eq_true, ← hp.length_eq]
    refine ⟨h1, fun x hx => ?_⟩
    obtain ⟨g1, g2⟩ := h2 x (hp.mem_iff.2 hx)
    rw [Bool.and_eq_true]; exact ⟨g1, decide_eq_true g2⟩
  unfold tidyR
  rw [hf, if_pos rfl, order_any hp (rises_sorted h3), if_pos h3]
theorem out_own {B : Nat} {l : List Rw} {d : Int} {e : Ending} {w' : World} (h : OutR B (l, d) e w') : ∃ v us, e = .returned (.tuple #[v, .int .i64 d]) ∧ OwnR w' B v us l := by
  obtain ⟨v, he, us, ho⟩ := h
  exact ⟨v, us, he, ho⟩
theorem same_any (o1 o2 : Option Addr) (n1 c1 n2 c2 : Nat) (xs ys : List Rw) (w : World) (h1 : xs.length = n1) (h2 : ys.length = n2) (hm : n1 ≤ maxLen) (hm2 : n2 ≤ maxLen) (B : Nat) (s1 : RowsS w B o1 xs) (s2 : RowsS w B o2 ys) :
    Calls Try.prog 14 #[.slice o1 n1 c1, .slice o2 n2 c2] w fun e w' => e = .returned (.bool (sameR xs ys)) ∧ Below w.heap.size w w' := by
  subst h1 h2
  exact sameRows_any o1 o2 c1 c2 xs ys w hm hm2 B s1 s2

set_option maxHeartbeats 8000000 in
set_option maxRecDepth 100000 in
theorem splits_any (o : Option Addr) (n c : Nat) (xs : List Rw) (v : Int) (w : World) (hn : xs.length = n) (hS : RowsS w w.heap.size o xs) :
    Calls Try.prog 4 #[.slice o n c, .int .i64 v] w fun e w' => e = .returned (.bool true) ∧ Below w.heap.size w w' := by
  obtain ⟨i0, hi, hz0, hz1, hz2⟩ := info_parts infoRow
  have HAl := Lib.hid (fun W => alive_any W)
  have HLt := Lib.hid (lightR_any o n c xs w _ hn hS)
  have HV := Lib.hid (fun W => Fix.value_any v W)
  cases hl : lightR xs with
  | false =>
    rw [hl] at HLt
    clear hl hS
    go_enter Try.func4, Try.ntmps4
    go_wp2_with fail
    refine HLt.out.mono ?_
    rintro e w1 ⟨rfl, b1⟩
    go_wp2_with fail
    refine (HAl.out _).mono ?_
    rintro e w2 ⟨rfl, b2⟩
    go_wp2
    go_ret
    exact ⟨rfl, b1.trans (b2.mono b1.size)⟩
  | true =>
  obtain ⟨h60, hsm⟩ := lightR_mk hl
  rw [hl] at HLt
  cases hv : Fix.rgtB v with
  | false =>
    rw [hv] at HV
    clear hl hS hv
    go_enter Try.func4, Try.ntmps4
    go_wp2_with fail
    refine HLt.out.mono ?_
    rintro e w1 ⟨rfl, b1⟩
    go_wp2_with (first
      | (go_at_call 16; refine (HV.out _).mono ?_; rintro e w3 ⟨rfl, rfl⟩)
      | (go_at_call 10; refine (HAl.out _).mono ?_; rintro e w2 ⟨rfl, b2⟩))
    go_ret
    exact ⟨rfl, b1.trans (b2.mono b1.size)⟩
  | true =>
  have hvr : Fix.rgt v := of_decide_eq_true hv
  have har := vecT_right xs
  obtain ⟨P1, P2, P3⟩ := splits_plain har hvr
  have PT := splits_tidy (lessV v) har
  have hal : (vecT xs).length ≤ 60 := Nat.le_trans (vecT_len xs) h60
  have HT := Lib.hid (fun W (hb : Below w.heap.size w W) => ltidy_any o n c xs W _ hn (by omega) hsm (hS.below frow hb))
  obtain ⟨a, ha⟩ : ∃ a, vecT xs = a := ⟨_, rfl⟩
  rw [ha] at P1 P2 P3 PT hal HT
  obtain ⟨x, hx⟩ : ∃ x, a.filter (lessV v) = x := ⟨_, rfl⟩
  obtain ⟨y, hy⟩ : ∃ y, a.filter (fun x => !lessV v x) = y := ⟨_, rfl⟩
  have hxl : x.length ≤ 60 := by rw [← hx]; exact Nat.le_trans (List.length_filter_le _ _) hal
  have hyl : y.length ≤ 60 := by rw [← hy]; exact Nat.le_trans (List.length_filter_le _ _) hal
  rw [hx] at P1 P3 PT
  rw [hy] at P2 PT
  obtain ⟨na, hna⟩ : ∃ na, a.length = na := ⟨_, rfl⟩
  have hS1 := Lib.hid (fun (W : World) o c (s : RowsS W 0 o a) => (show Calls Try.prog 17 #[.string ⟨#[60]⟩, .slice o na c, .int .i64 v, .bool false] W (AnsR W (x, 0)) from by
    rw [← P1]; exact scale_any _ o na c v false a W (by decide) hna (by unfold maxLen; omega) 0 (Nat.zero_le _) s))
  have hS2 := Lib.hid (fun (W : World) o c (s : RowsS W 0 o a) => (show Calls Try.prog 17 #[.string ⟨#[62, 61]⟩, .slice o na c, .int .i64 v, .bool false] W (AnsR W (y, 0)) from by
    rw [← P2]; exact scale_any _ o na c v false a W (by decide) hna (by unfold maxLen; omega) 0 (Nat.zero_le _) s))
  have hS3 := Lib.hid (fun (W : World) o c (s : RowsS W 0 o a) => (show Calls Try.prog 17 #[.string ⟨#[62]⟩, .slice o na c, .int .i64 v, .bool true] W (AnsR W (x, 0)) from by
    rw [← P3]; exact scale_any _ o na c v true a W (by decide) hna (by unfold maxLen; omega) 0 (Nat.zero_le _) s))
  obtain ⟨nx, hnx⟩ : ∃ nx, x.length = nx := ⟨_, rfl⟩
  obtain ⟨ny, hny⟩ : ∃ ny, y.length = ny := ⟨_, rfl⟩
  have hTd := Lib.hid (fun (W : World) o m c (hm : (x ++ y).length = m) (s : RowsS W 0 o (x ++ y)) => (show Calls Try.prog 18 #[.slice o m c] W (AnsR W (a, 0)) from by
    rw [← PT]; exact tidy_row o m c (x ++ y) W 0 hm (by subst hm; rw [List.length_append]; unfold maxLen; omega) s))
  have HSame := Lib.hid (fun (W : World) o1 o2 n1 c1 n2 c2 (l : List Rw) (h1 : l.length = n1) (h2 : l.length = n2) (hl : l.length ≤ 60) (s1 : RowsS W 0 o1 l) (s2 : RowsS W 0 o2 l) => (show Calls Try.prog 14 #[.slice o1 n1 c1, .slice o2 n2 c2] W fun e w' => e = .returned (.bool true) ∧ Below W.heap.size W w' from by
    have := same_any o1 o2 n1 c1 n2 c2 l l W h1 h2 (by unfold maxLen; omega) (by unfold maxLen; omega) 0 s1 s2
    rw [sameR_refl] at this; exact this))
  have HNX := Lib.hid hnx
  have HNY := Lib.hid hny
  have HNA := Lib.hid hna
  have HXL := Lib.hid hxl
  have HYL := Lib.hid hyl
  have HAL := Lib.hid hal
  rw [hv] at HV
  clear hl hS hv hvr har P1 P2 P3 PT ha hx hy hsm hxl hyl hal hnx hny hna
  go_enter Try.func4, Try.ntmps4
  go_wp2_with fail
  refine HLt.out.mono ?_
  rintro e w1 ⟨rfl, b1⟩
  go_wp2_with (first
    | (go_at_call 16; refine (HV.out _).mono ?_; rintro e w3 ⟨rfl, rfl⟩)
    | (go_at_call 10; refine (HAl.out _).mono ?_; rintro e w2 ⟨rfl, b2⟩; have b12 := b1.trans (b2.mono b1.size); clear b1 b2)
    | (go_at_call 11; refine (HT.out _ b12).mono ?_; rintro e w3 ⟨⟨va, usa, rfl, hoa⟩, b3⟩; obtain ⟨oA, cA, rfl, hsA, _⟩ := hoa.sees frow; rw [HNA.out]; have HB3 := Lib.hid (b12.trans (b3.mono b12.size)); have HSA := Lib.hid hsA; clear b12 b3 hoa hsA))
  refine (hS1.out _ oA cA HSA.out).mono ?_
  rintro e w4 ⟨ho, b4⟩
  obtain ⟨vx, usx, rfl, hox⟩ := out_own ho
  have HSA4 := Lib.hid (HSA.out.below frow b4)
  have HB4 := Lib.hid (HB3.out.trans (b4.mono HB3.out.size))
  have HOX := Lib.hid hox
  clear ho hox b4 HSA HB3 hS1
  go_wp2_with fail
  refine (hS2.out _ oA cA HSA4.out).mono ?_
  rintro e w5 ⟨ho, b5⟩
  obtain ⟨vy, usy, rfl, hoy⟩ := out_own ho
  have HSA5 := Lib.hid (HSA4.out.below frow b5)
  have HB5 := Lib.hid (HB4.out.trans (b5.mono HB4.out.size))
  have HOX5 := Lib.hid (HOX.out.below frow b5)
  have HOY := Lib.hid hoy
  clear ho hoy b5 HSA4 HB4 HOX hS2
  go_wp2_with fail
  refine (hS3.out _ oA cA HSA5.out).mono ?_
  rintro e w6 ⟨ho, b6⟩
  obtain ⟨vz, usz, rfl, hoz⟩ := out_own ho
  have HSA6 := Lib.hid (HSA5.out.below frow b6)
  have HB6 := Lib.hid (HB5.out.trans (b6.mono HB5.out.size))
  have hox := HOX5.out.below frow b6
  have hoy := HOY.out.below frow b6
  obtain ⟨oX, cX, rfl, hsX, _⟩ := hox.sees frow
  obtain ⟨oY, cY, rfl, _, _⟩ := hoy.sees frow
  obtain ⟨oZ, cZ, rfl, hsZ, _⟩ := hoz.sees frow
  rw [HNX.out] at hox ⊢
  rw [HNY.out] at hoy ⊢
  have HOX6 := Lib.hid hox
  have HOY6 := Lib.hid hoy
  have HSm := Lib.hid (HSame.out w6 oX oZ nx cX nx cZ x HNX.out HNX.out HXL.out hsX hsZ)
  clear ho hox hoy hoz hsX hsZ b6 HSA5 HB5 HOX5 HOY hS3
  go_wp2_with fail
  refine HSm.out.mono ?_
  rintro e w7 ⟨rfl, b7⟩
  have hox7 := HOX6.out.below frow b7
  have hoy7 := HOY6.out.below frow b7
  have HSA7 := Lib.hid (HSA6.out.below frow b7)
  have HB7 := Lib.hid (HB6.out.trans (b7.mono HB6.out.size))
  have hl60 : x.length + y.length ≤ 120 := by have := HXL.out; have := HYL.out; omega
  clear b7 HOX6 HOY6 HSA6 HB6 HSm
  go_wp2_with (first
    | (at_builtin; refine wpList_append_G _ rfl _ _ 22 rfl w7.heap.size 29 i0 (.agg #[.slice none 0 0, .int .i64 0]) 2 32 Try.underlying22 hi hz0 hz1 hz2 rfl (by decide) frow (Nat.zero_le _) v8 _ _ rfl ho8 (.slice oY ny cY) _ usy y rfl hoy8 (by unfold maxLen; simp; omega) (by simp; omega) hb8.size ?_
       intro v9 w9 ho9 hg9
       have HB9 := Lib.hid (Below.grown hb8 hg9 hb8.size (fun j hj => (ho8.own.lt j hj).1) : Below w7.heap.size w7 w9)
       rw [List.nil_append, List.nil_append] at ho9
       obtain ⟨oT, cT, rfl, hsT, _⟩ := ho9.sees frow
       obtain ⟨m, hm9⟩ : ∃ m, (x ++ y).length = m := ⟨_, rfl⟩
       rw [hm9]
       have HTd := Lib.hid (hTd.out w9 oT m cT hm9 hsT)
       clear ho8 hoy8 hg9 ho9 hsT hb8 hm9)
    | (at_builtin; refine wpList_append_G _ rfl _ _ 22 rfl w7.heap.size 29 i0 (.agg #[.slice none 0 0, .int .i64 0]) 2 32 Try.underlying22 hi hz0 hz1 hz2 rfl (by decide) frow (Nat.zero_le _) (.slice none 0 0) [] [] rfl (OwnG.nil _ _) (.slice oX nx cX) _ usx x rfl hox7 (by unfold maxLen; simp; omega) (by simp; omega) (Nat.le_refl _) ?_
       intro v8 w8 ho8 hg8
       have hb8 : Below w7.heap.size w7 w8 := below_ownL hg8
       have hoy8 := hoy7.below frow hb8
       clear hox7 hoy7 hg8)
    | (go_at_call 18; go_fit HTd.out; rintro e w10 ⟨ho, b10⟩; obtain ⟨vt, ust, rfl, hot⟩ := out_own ho; obtain ⟨oU, cU, rfl, hsU, _⟩ := hot.sees frow; rw [HNA.out]
       have HB10 := Lib.hid (HB7.out.trans ((HB9.out.trans (b10.mono HB9.out.size)).mono HB7.out.size))
       have HSm := Lib.hid (HSame.out w10 oU oA na cU na cA a HNA.out HNA.out HAL.out hsU (HSA7.out.below frow (HB9.out.trans (b10.mono HB9.out.size))))
       clear ho hot hsU b10)
    | (go_at_call 14; go_fit HSm.out; rintro e w11 ⟨rfl, b11⟩))
  go_ret
  exact ⟨rfl, HB10.out.trans (b11.mono HB10.out.size)⟩
end Go.Proofs.Ytiedhlcgdfdjhaa.Vec
