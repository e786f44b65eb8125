/- The walk of the statement on patterns put together. -/
import Derived.Test.YtfpdhmecomgbdaaAgain
import Derived.Test.YtfpdhmecomgbdaaQg
import Derived.Deep.CutRange
import Derived.Deep.OwnRows
namespace Go.Proofs.Ytfpdhmecomgbdaa
open Go.RowKit

/-- '(p)(q)'. -/
def bothB (p q : ByteArray) : ByteArray := (⟨#[40]⟩ : ByteArray) ++ p ++ (⟨#[41, 40]⟩ : ByteArray) ++ q ++ (⟨#[41]⟩ : ByteArray)
/-- '(p)|(q)'. -/
def eithB (p q : ByteArray) : ByteArray := (⟨#[40]⟩ : ByteArray) ++ p ++ (⟨#[41, 124, 40]⟩ : ByteArray) ++ q ++ (⟨#[41]⟩ : ByteArray)
theorem bothB_size (p q : ByteArray) : (bothB p q).size = p.size + q.size + 4 := by
  unfold bothB
  rw [ByteArray.size_append, ByteArray.size_append, ByteArray.size_append, ByteArray.size_append]
  show 1 + p.size + 2 + q.size + 1 = _
  omega
theorem eithB_size (p q : ByteArray) : (eithB p q).size = p.size + q.size + 5 := by
  unfold eithB
  rw [ByteArray.size_append, ByteArray.size_append, ByteArray.size_append, ByteArray.size_append]
  show 1 + p.size + 3 + q.size + 1 = _
  omega
theorem bothB_spell (p q : ByteArray) : spell (bothB p q).data.toList = 40 :: spell p.data.toList ++ (41 :: 40 :: spell q.data.toList ++ [41]) := by
  have e : (bothB p q).data.toList = 40 :: (p.data.toList ++ 41 :: (40 :: (q.data.toList ++ 41 :: []))) := by
    simp [bothB, ByteArray.data_append]
  rw [e, ascii_cons _ (by decide), spell_ascii _ (by decide), ascii_cons _ (by decide), ascii_cons _ (by decide), spell_ascii _ (by decide), ascii_cons _ (by decide)]
  rfl
theorem eithB_spell (p q : ByteArray) : spell (eithB p q).data.toList = 40 :: spell p.data.toList ++ (41 :: 124 :: 40 :: spell q.data.toList ++ [41]) := by
  have e : (eithB p q).data.toList = 40 :: (p.data.toList ++ 41 :: (124 :: 40 :: (q.data.toList ++ 41 :: []))) := by
    simp [eithB, ByteArray.data_append]
  rw [e, ascii_cons _ (by decide), spell_ascii _ (by decide), ascii_cons _ (by decide), ascii_cons _ (by decide), ascii_cons _ (by decide), spell_ascii _ (by decide), ascii_cons _ (by decide)]
  rfl
theorem both_comp {p q : ByteArray} {x y : Pt} (hx : readP (spell p.data.toList) = some x) (hy : readP (spell q.data.toList) = some y) (hp : p.size ≤ 17) (hq : q.size ≤ 17) :
    PatOk (layF (.choice [.chain [x, y]]) ⟨[], []⟩) ∧ ∀ W, Calls Try.prog 12 #[.string (bothB p q)] W (Comp W (bothB p q) (layF (.choice [.chain [x, y]]) ⟨[], []⟩)) := by
  obtain ⟨c, rfl, _, _⟩ := readP_open hx
  obtain ⟨d, rfl, _, _⟩ := readP_open hy
  have hsp := bothB_spell p q
  have hsz := bothB_size p q
  have hl0 := spell_size p
  have hl1 := spell_size q
  have hro := read_both hx hy
  rw [← hsp] at hro
  have hl : ¬ 40 < (spell (bothB p q).data.toList).length := by
    rw [hsp]; simp only [List.length_append, List.length_cons, List.length_nil]; omega
  exact ⟨readP_ok hro hl, fun W => compile_ok _ _ W (by omega) hl hro⟩
theorem eith_comp {p q : ByteArray} {x y : Pt} (hx : readP (spell p.data.toList) = some x) (hy : readP (spell q.data.toList) = some y) (hp : p.size ≤ 17) (hq : q.size ≤ 17) :
    PatOk (layF (.choice [.chain [x], .chain [y]]) ⟨[], []⟩) ∧ ∀ W, Calls Try.prog 12 #[.string (eithB p q)] W (Comp W (eithB p q) (layF (.choice [.chain [x], .chain [y]]) ⟨[], []⟩)) := by
  obtain ⟨c, rfl, _, _⟩ := readP_open hx
  obtain ⟨d, rfl, _, _⟩ := readP_open hy
  have hsp := eithB_spell p q
  have hsz := eithB_size p q
  have hl0 := spell_size p
  have hl1 := spell_size q
  have hro := read_either hx hy
  rw [← hsp] at hro
  have hl : ¬ 40 < (spell (eithB p q).data.toList).length := by
    rw [hsp]; simp only [List.length_append, List.length_cons, List.length_nil]; omega
  exact ⟨readP_ok hro hl, fun W => compile_ok _ _ W (by omega) hl hro⟩
theorem comp_cases3 (S : ByteArray) (W : World) (hs : S.size ≤ 1000000) :
    (∃ k : Int, ((k == 0) = false ∧ (k != 0) = true ∧ ¬ k = 0) ∧ Calls Try.prog 12 #[.string S] W fun e w' => e = .returned (.tuple #[.pointer none, .int .i64 k]) ∧ Below W.heap.size W w') ∨
    (∃ x, readP (spell S.data.toList) = some x ∧ PatOk (layF x ⟨[], []⟩) ∧ Calls Try.prog 12 #[.string S] W (Comp W S (layF x ⟨[], []⟩))) := by
  rcases comp_cases2 S W hs with h | h | h
  · exact .inl ⟨1, by decide, h⟩
  · exact .inl ⟨2, by decide, h⟩
  · exact .inr h
theorem whole_runes (bp : Nat) (ps : ByteArray) (T : Eg × Gr) (l : List Int) (W : World) (h : PatAt W bp ps T) (hok : PatOk T) (hl : l.length ≤ 1000) (ho : ∀ r ∈ l, okR r) :
    Calls Try.prog 13 #[.pointer (some ⟨bp, 0, none⟩), .string (runesBytes l)] W fun e w' => e = .returned (.bool (wholeF T l)) ∧ Below W.heap.size W w' := by
  have hs := bytes_size l
  have := whole_any bp ps T (runesBytes l) W h hok (by omega)
  rwa [spell_bytes ho] at this
theorem info4 : (Try.prog.info? 4).map (fun i => (i.zero, i.size, i.bytes)) = some (some (.bool false), 1, 1) := by kernel_rfl
theorem make_bools (W : World) (K : Nat) (hK : K ≤ 30) : ∃ W8, (Instr.makeSlice 31 (.int .i64 ((K : Int) + 1)) (.int .i64 ((K : Int) + 1))).run Try.prog W = .ok (.slice (some ⟨W.heap.size, 0, none⟩) (K + 1) (K + 1)) W8 ∧ W8.rowIs W.heap.size 4 (K + 1) (fun _ => .bool false) ∧ Below W.heap.size W W8 := by
  obtain ⟨i0, hi, hz0, hz1, hz2⟩ := info_parts info4
  have h := run_make (P := Try.prog) W 31 4 i0 (.bool false) Try.underlying31 hi hz0 .i64 .i64 ((K : Int) + 1) ((K : Int) + 1) (by omega) (Int.le_refl _) (by rw [hz2]; omega) (by omega)
  rw [hz1, Nat.mul_one, show ((K : Int) + 1).toNat = K + 1 by omega] at h
  exact ⟨_, h, World.rowIs_made W (.bool false) (K + 1) 4, (Below.refl _ _).alloc (Nat.le_refl _) _⟩
/-- The row of what is reached, ahead of round k. -/
def curF (S : Eg × Gr) (rs : List Int) (k i : Nat) : Value := .bool (if i < k then wholeF S (rs.take i) else decide (i = 0))
/-- The row in round k, ahead of its round j. -/
def curJ (T S : Eg × Gr) (rs : List Int) (k j i : Nat) : Value := if i = k then .bool (accF T S rs k j) else curF S rs k i
theorem curJ_at (T S : Eg × Gr) (rs : List Int) (k j : Nat) : curJ T S rs k j k = .bool (accF T S rs k j) := by unfold curJ; rw [if_pos rfl]
theorem curJ_lt (T S : Eg × Gr) (rs : List Int) {k j i : Nat} (h : i < k) : curJ T S rs k j i = .bool (wholeF S (rs.take i)) := by
  unfold curJ curF; rw [if_neg (by omega), if_pos h]
theorem curF_lt (S : Eg × Gr) (rs : List Int) {k i : Nat} (h : i < k) : curF S rs k i = .bool (wholeF S (rs.take i)) := by
  unfold curF; rw [if_pos h]
/-- The world of the loops. -/
structure Inn (w7 wr : World) (K : Nat) (f : Nat → Value) : Prop where
  below : Below w7.heap.size w7 wr
  row : wr.rowIs w7.heap.size 4 (K + 1) f
theorem Inn.later {w7 wr w' : World} {K : Nat} {f : Nat → Value} (h : Inn w7 wr K f) (hb : Below wr.heap.size wr w') : Inn w7 w' K f :=
  ⟨h.below.trans (hb.mono h.below.size), h.row.of_block (hb.block _ h.row.lt)⟩
theorem Inn.put {w7 wr : World} {K : Nat} {T S : Eg × Gr} {rs : List Int} {k j : Nat} (h : Inn w7 wr K (curJ T S rs k j)) (v : Bool) (hv : v = accF T S rs k (j + 1)) : Inn w7 (wr.setCell ⟨w7.heap.size, k, none⟩ (.bool v)) K (curJ T S rs k (j + 1)) := by
  subst hv
  refine ⟨h.below.setCell (Nat.le_refl _) _, (h.row.set k _).congr fun i _ => ?_⟩
  unfold curJ
  split <;> rfl
theorem Inn.start {w7 wr : World} {K : Nat} {T S : Eg × Gr} {rs : List Int} {k : Nat} (h : Inn w7 wr K (curF S rs k)) : Inn w7 wr K (curJ T S rs k 0) := by
  refine ⟨h.below, h.row.congr fun i _ => ?_⟩
  unfold curJ
  split
  · rename_i e; subst e; rw [accF_zero]; unfold curF; rw [if_neg (Nat.lt_irrefl _)]
  · rfl
theorem Inn.last {w7 wr : World} {K : Nat} {T S : Eg × Gr} {rs : List Int} {k : Nat} (h : Inn w7 wr K (curJ T S rs k k)) (hs : wholeF S (rs.take k) = accF T S rs k k) : Inn w7 wr K (curF S rs (k + 1)) := by
  refine ⟨h.below, h.row.congr fun i _ => ?_⟩
  unfold curJ curF
  by_cases e : i = k
  · subst e; rw [if_pos rfl, if_pos (by omega), hs]
  · rw [if_neg e]
    by_cases e2 : i < k
    · rw [if_pos e2, if_pos (by omega)]
    · rw [if_neg e2, if_neg (by omega)]
theorem Inn.first {w7 W8 : World} {K : Nat} {S : Eg × Gr} {rs : List Int} (hb : Below w7.heap.size w7 W8) (h : W8.rowIs w7.heap.size 4 (K + 1) (fun _ => .bool false)) : Inn w7 (W8.setCell ⟨w7.heap.size, 0, none⟩ (.bool true)) K (curF S rs 0) := by
  refine ⟨hb.setCell (Nat.le_refl _) _, (h.set 0 _).congr fun i _ => ?_⟩
  unfold curF
  rw [if_neg (Nat.not_lt_zero _)]
  by_cases e : i = 0
  · rw [if_pos e, decide_eq_true e]
  · rw [if_neg e, decide_eq_false e]
/-- A piece of a list of runes, as a text. -/
theorem part_if {g : Nat} {xs : List Int} {W : World} (h3 : ∀ (j : Nat) (x : Int), xs[j]? = some x → W.cell? ⟨g, j, none⟩ = some (.int .i32 x)) (j n cap : Nat) (hk : j + n ≤ xs.length) (hc : cap = j → n = 0) :
    (convert 22 9 (.slice (if cap = j then some ⟨g, 0, none⟩ else some ⟨g, j, none⟩) n (cap - j))).run Try.prog W = .ok (.string (runesBytes ((xs.drop j).take n))) W := by
  by_cases e : cap = j
  · have hn := hc e
    subst hn
    rw [if_pos e]
    have := Lies.part h3 0 0 (cap - j) (by omega)
    rw [List.take_zero] at this ⊢
    exact this
  · rw [if_neg e]; exact Lies.part h3 j n (cap - j) hk
theorem Inn.drew {w7 wr : World} {K : Nat} {f : Nat → Value} (h : Inn w7 wr K f) : Inn w7 wr.drew K f := ⟨h.below.drew, h.row.drew⟩
/-- The five patterns, in a later world. -/
structure Five (w : World) (bx by_ bb be bs : Nat) (p q : ByteArray) (TX TY TB TE TS : Eg × Gr) : Prop where
  x : PatAt w bx p TX
  y : PatAt w by_ q TY
  b : PatAt w bb (bothB p q) TB
  e : PatAt w be (eithB p q) TE
  s : PatAt w bs (often p 42) TS
theorem Five.below {w w' : World} {bx by_ bb be bs : Nat} {p q : ByteArray} {TX TY TB TE TS : Eg × Gr} (h : Five w bx by_ bb be bs p q TX TY TB TE TS) (hb : Below w.heap.size w w') : Five w' bx by_ bb be bs p q TX TY TB TE TS :=
  ⟨h.x.below hb, h.y.below hb, h.b.below hb, h.e.below hb, h.s.below hb⟩

set_option maxHeartbeats 16000000 in
set_option maxRecDepth 100000 in
theorem parts_any (p q s : ByteArray) (w : World) :
    Calls Try.prog 4 #[.string p, .string q, .string s] w fun e w' => e = .returned (.bool true) ∧ Below w.heap.size w w' := by
  have HAL := Lib.hid (fun W => alive_any W)
  by_cases h1 : 17 < p.size
  · have i1 : (17 : Int) < p.size := by omega
    have t1 : decide ((17 : Int) < p.size) = true := by simpa using i1
    clear h1
    go_enter Try.func4, Try.ntmps4
    go_wp2_with fail
    refine (HAL.out _).mono ?_
    rintro e w1 ⟨rfl, b1⟩
    go_wp2
    go_ret
    exact ⟨rfl, b1⟩
  have i1 : (p.size : Int) ≤ 17 := by omega
  have t1 : decide ((17 : Int) < p.size) = false := by simpa using i1
  by_cases h2 : 17 < q.size
  · have i2 : (17 : Int) < q.size := by omega
    have t2 : decide ((17 : Int) < q.size) = true := by simpa using i2
    clear h1 h2
    go_enter Try.func4, Try.ntmps4
    go_wp2_with fail
    refine (HAL.out _).mono ?_
    rintro e w1 ⟨rfl, b1⟩
    go_wp2
    go_ret
    exact ⟨rfl, b1⟩
  have i2 : (q.size : Int) ≤ 17 := by omega
  have t2 : decide ((17 : Int) < q.size) = false := by simpa using i2
  by_cases h3 : 30 < s.size
  · have i3 : (30 : Int) < s.size := by omega
    have t3 : decide ((30 : Int) < s.size) = true := by simpa using i3
    clear h1 h2 h3
    go_enter Try.func4, Try.ntmps4
    go_wp2_with fail
    refine (HAL.out _).mono ?_
    rintro e w1 ⟨rfl, b1⟩
    go_wp2
    go_ret
    exact ⟨rfl, b1⟩
  have i3 : (s.size : Int) ≤ 30 := by omega
  have t3 : decide ((30 : Int) < s.size) = false := by simpa using i3
  have hps : p.size ≤ 17 := by omega
  have hqs : q.size ≤ 17 := by omega
  have hss : s.size ≤ 30 := by omega
  clear h1 h2 h3
  have HCP := Lib.hid (fun W => comp_cases3 p W (by omega))
  have HCQ := Lib.hid (fun W => comp_cases3 q W (by omega))
  have HSS := Lib.hid (fun W => spell_any s W (by omega))
  have hSl := spell_size s
  have hoks := spell_ok s.data.toList
  obtain ⟨rs, hrs⟩ : ∃ rs, spell s.data.toList = rs := ⟨_, rfl⟩
  rw [hrs] at HSS hSl hoks
  have HRS := Lib.hid hrs
  have HOKS := Lib.hid hoks
  obtain ⟨K, hK⟩ : ∃ K, rs.length = K := ⟨_, rfl⟩
  have HK := Lib.hid hK
  rw [hK] at hSl
  have hz7 := bytes_size rs
  rw [hK] at hz7
  clear hrs hoks hK
  go_enter Try.func4, Try.ntmps4
  go_wp2_with fail
  refine (HAL.out _).mono ?_
  rintro e w1 ⟨rfl, b1⟩
  have HB1 := Lib.hid b1
  clear b1
  rcases HCP.out w1 with ⟨kp, ⟨hkp, hkp1, hkp2⟩, hc⟩ | ⟨x, hrx, hokx, hcx⟩
  · have HC := Lib.hid hc
    clear hc
    go_wp2_with fail
    refine HC.out.mono ?_
    rintro e w2 ⟨rfl, b2⟩
    have HB2 := Lib.hid (HB1.out.trans (b2.mono HB1.out.size))
    clear b2
    rcases HCQ.out w2 with ⟨kq, ⟨hkq, hkq1, hkq2⟩, hc⟩ | ⟨y, hry, hoky, hcy⟩
    · have HC2 := Lib.hid hc
      clear hc
      go_wp2_with fail
      refine HC2.out.mono ?_
      rintro e w3 ⟨rfl, b3⟩
      have HB3 := Lib.hid (HB2.out.trans (b3.mono HB2.out.size))
      clear b3
      go_wp2
      go_ret
      exact ⟨rfl, HB3.out⟩
    · have HC2 := Lib.hid hcy
      clear hcy hoky hry
      go_wp2_with fail
      refine HC2.out.mono ?_
      rintro e w3 ⟨bq, rfl, _, b3⟩
      have HB3 := Lib.hid (HB2.out.trans (b3.mono HB2.out.size))
      clear b3
      go_wp2
      go_ret
      exact ⟨rfl, HB3.out⟩
  have HC := Lib.hid hcx
  clear hcx
  go_wp2_with fail
  refine HC.out.mono ?_
  rintro e w2 ⟨bx, rfl, hpx, b2⟩
  have HB2 := Lib.hid (HB1.out.trans (b2.mono HB1.out.size))
  have HPX := Lib.hid hpx
  clear b2 hpx
  rcases HCQ.out w2 with ⟨kq, ⟨hkq, hkq1, hkq2⟩, hc⟩ | ⟨y, hry, hoky, hcy⟩
  · have HC2 := Lib.hid hc
    clear hc hrx hokx
    go_wp2_with fail
    refine HC2.out.mono ?_
    rintro e w3 ⟨rfl, b3⟩
    have HB3 := Lib.hid (HB2.out.trans (b3.mono HB2.out.size))
    clear b3
    go_wp2
    go_ret
    exact ⟨rfl, HB3.out⟩
  obtain ⟨okb, hcb⟩ := both_comp hrx hry hps hqs
  obtain ⟨oke, hce⟩ := eith_comp hrx hry hps hqs
  obtain ⟨oks, hcs⟩ := often_comp hrx (by omega) 42 true true (.inl ⟨rfl, rfl, rfl⟩)
  have hat := parts_at x y rs
  obtain ⟨TX, hTX⟩ : ∃ T, layF x ⟨[], []⟩ = T := ⟨_, rfl⟩
  obtain ⟨TY, hTY⟩ : ∃ T, layF y ⟨[], []⟩ = T := ⟨_, rfl⟩
  obtain ⟨TB, hTB⟩ : ∃ T, layF (.choice [.chain [x, y]]) ⟨[], []⟩ = T := ⟨_, rfl⟩
  obtain ⟨TE, hTE⟩ : ∃ T, layF (.choice [.chain [x], .chain [y]]) ⟨[], []⟩ = T := ⟨_, rfl⟩
  obtain ⟨TS, hTS⟩ : ∃ T, layF (.choice [.chain [.times x true true]]) ⟨[], []⟩ = T := ⟨_, rfl⟩
  rw [hTX] at hokx hat HPX
  rw [hTY] at hoky hcy hat
  rw [hTB] at okb hcb hat
  rw [hTE] at oke hce hat
  rw [hTS] at oks hcs hat
  have HAT := Lib.hid hat
  have HWX := Lib.hid (fun bp l W (hp : PatAt W bp p TX) (hl : l.length ≤ 1000) (ho : ∀ r ∈ l, okR r) => whole_runes bp _ TX l W hp hokx hl ho)
  have HWY := Lib.hid (fun bp l W (hp : PatAt W bp q TY) (hl : l.length ≤ 1000) (ho : ∀ r ∈ l, okR r) => whole_runes bp _ TY l W hp hoky hl ho)
  have HWB := Lib.hid (fun bp l W (hp : PatAt W bp (bothB p q) TB) (hl : l.length ≤ 1000) (ho : ∀ r ∈ l, okR r) => whole_runes bp _ TB l W hp okb hl ho)
  have HWE := Lib.hid (fun bp l W (hp : PatAt W bp (eithB p q) TE) (hl : l.length ≤ 1000) (ho : ∀ r ∈ l, okR r) => whole_runes bp _ TE l W hp oke hl ho)
  have HWS := Lib.hid (fun bp l W (hp : PatAt W bp (often p 42) TS) (hl : l.length ≤ 1000) (ho : ∀ r ∈ l, okR r) => whole_runes bp _ TS l W hp oks hl ho)
  have HC2 := Lib.hid hcy
  have HCB := Lib.hid hcb
  have HCE := Lib.hid hce
  have HCS := Lib.hid hcs
  have HFB := Lib.hid (show (⟨#[40]⟩ : ByteArray) ++ p ++ (⟨#[41, 40]⟩ : ByteArray) ++ q ++ (⟨#[41]⟩ : ByteArray) = bothB p q from rfl)
  have HFE := Lib.hid (show (⟨#[40]⟩ : ByteArray) ++ p ++ (⟨#[41, 124, 40]⟩ : ByteArray) ++ q ++ (⟨#[41]⟩ : ByteArray) = eithB p q from rfl)
  have HFS := Lib.hid (show (⟨#[40]⟩ : ByteArray) ++ p ++ (⟨#[41, 42]⟩ : ByteArray) = often p 42 from rfl)
  clear hrx hry hokx hoky okb oke oks hcy hcb hce hcs hat hTX hTY hTB hTE hTS
  go_wp2_with fail
  refine HC2.out.mono ?_
  rintro e w3 ⟨by_, rfl, hpy, b3⟩
  have HB3 := Lib.hid (HB2.out.trans (b3.mono HB2.out.size))
  have HP3 := Lib.hid (And.intro (HPX.out.below b3) hpy)
  clear b3 hpy
  go_wp2_with fail
  rw [HFB.out]
  refine (HCB.out _).mono ?_
  rintro e w4 ⟨bb, rfl, hpb, bw⟩
  have HB4 := Lib.hid (HB3.out.trans (bw.mono HB3.out.size))
  have HP4 := Lib.hid (And.intro (HP3.out.1.below bw) (And.intro (HP3.out.2.below bw) hpb))
  clear bw hpb
  go_wp2_with fail
  rw [HFE.out]
  refine (HCE.out _).mono ?_
  rintro e w5 ⟨be, rfl, hpe, bw⟩
  have HB5 := Lib.hid (HB4.out.trans (bw.mono HB4.out.size))
  have HP5 := Lib.hid (And.intro (HP4.out.1.below bw) (And.intro (HP4.out.2.1.below bw) (And.intro (HP4.out.2.2.below bw) hpe)))
  clear bw hpe
  go_wp2_with fail
  rw [HFS.out]
  refine (HCS.out _).mono ?_
  rintro e w6 ⟨bs, rfl, hps6, bw⟩
  have HB6 := Lib.hid (HB5.out.trans (bw.mono HB5.out.size))
  have HP6 := Lib.hid (And.intro (HP5.out.1.below bw) (And.intro (HP5.out.2.1.below bw) (And.intro (HP5.out.2.2.1.below bw) (And.intro (HP5.out.2.2.2.below bw) hps6))))
  clear bw hps6
  go_wp2_with fail
  refine (HSS.out _).mono ?_
  rintro e w7 ⟨hsp, b7⟩
  obtain ⟨oa, cap, rfl, hcap, hl⟩ := hsp.open
  have HL7 := Lib.hid (show Lies oa rs w7 from hl)
  have hcv := conv_all HL7.out HK.out cap
  have HB7 := Lib.hid (HB6.out.trans (b7.mono HB6.out.size))
  have HP7 := Lib.hid ((show Five w6 bx by_ bb be bs p q TX TY TB TE TS from ⟨HP6.out.1, HP6.out.2.1, HP6.out.2.2.1, HP6.out.2.2.2.1, HP6.out.2.2.2.2⟩).below b7)
  rw [HK.out] at hcap ⊢
  obtain ⟨W8, hmk, hrow, hb8⟩ := make_bools w7 K (by omega)
  have c80 := hrow.cell (i := 0) (by omega)
  have f80 := hrow.frozen 0
  have HI := Lib.hid (Inn.first (S := TS) (rs := rs) hb8 hrow)
  rcases hl with ⟨rfl, hl⟩ | ⟨g, rfl, hg, hl⟩
  · have HR0 := Lib.hid hl
    have HK0 := Lib.hid (show K = 0 by rw [← HK.out, hl]; rfl)
    clear b7 hl hsp HB1 HB2 HB3 HB4 HB5 HB6 HP3 HP4 HP5 HP6 HPX HC HC2 HCB HCE HCS HFB HFE HFS HCP HCQ HAL HSS HRS hrow hb8
    go_wp2_with fail
    go_loopg [19, 22] (K + 2) (fun k' v19 v22 wr => ∃ k : Nat, k ≤ K + 1 ∧ k' + k = K + 2 ∧ v19 = .bool (innF TX TY rs k) ∧ v22 = .int .i64 k ∧ Hid (Inn w7 wr K (curF TS rs k)))
    case atStart => exact ⟨0, by omega, by omega, rfl, rfl, HI⟩
    case round =>
      obtain ⟨k, hk1, hgk, rfl, rfl, HI2⟩ := hrel
      have HGK := Lib.hid hgk
      by_cases hin : k ≤ K
      · have j1 : (k : Int) ≤ K := by omega
        have j2 : (k : Int) ≤ cap := by omega
        have j3 : (K : Int) ≤ cap := by omega
        have hLd : Lies none rs wr.drew := .inl ⟨rfl, HR0.out⟩
        have cv1 := hLd.conv k cap (by rw [HK.out]; omega)
        have cv2 := hLd.conv (K - k) (cap - k) (by rw [HK.out]; omega)
        rw [show rs.take (K - k) = rs.drop k by rw [HR0.out]; simp] at cv2
        have HST := Lib.hid (innF_step TX TY rs k)
        have kx := HWX.out bx (rs.take k)
        have ky := HWY.out by_ (rs.drop k)
        obtain ⟨I, hI⟩ : ∃ I, innF TX TY rs k = I := ⟨_, rfl⟩
        obtain ⟨VX, hX⟩ : ∃ V, wholeF TX (rs.take k) = V := ⟨_, rfl⟩
        obtain ⟨VY, hY⟩ : ∃ V, wholeF TY (rs.drop k) = V := ⟨_, rfl⟩
        rw [hI, hX, hY] at HST
        rw [hX] at kx
        rw [hY] at ky
        have hlt : (rs.take k).length ≤ 1000 := by rw [List.length_take, HK.out]; omega
        have hld : (rs.drop k).length ≤ 1000 := by rw [List.length_drop, HK.out]; omega
        have KX := Lib.hid (fun W hp => kx W hp hlt (fun r hr => HOKS.out r (List.mem_of_mem_take hr)))
        have KY := Lib.hid (fun W hp => ky W hp hld (fun r hr => HOKS.out r (List.mem_of_mem_drop hr)))
        rw [hI]
        clear hLd kx ky hX hY hlt hld hI hgk
        have HI3 := Lib.hid HI2.out.drew
        go_wp2_with fail
        go_cut [23, 24] from 148 to 155 (fun s23 s24 wx => s23 = .string (runesBytes (rs.take k)) ∧ s24 = .string (runesBytes (rs.drop k)) ∧ wx = wr.drew)
        case first =>
          go_region
          go_wp2_with fail
          go_meet
          exact ⟨rfl, rfl, rfl⟩
        case rest =>
          obtain ⟨rfl, rfl, rfl⟩ := hcut
          cases I with
          | true =>
            go_wp2_with fail
            go_loopg [25] (k + 1) (fun k' v25 wr => ∃ j : Nat, j ≤ k ∧ k' + j = k + 1 ∧ v25 = .int .i64 j ∧ Hid (Inn w7 wr K (curJ TX TS rs k j)))
            case atStart => exact ⟨0, by omega, by omega, rfl, HI3.out.start⟩
            case round =>
              obtain ⟨j, hjk, hgj, rfl, HJ⟩ := hrel
              have HGJ := Lib.hid hgj
              by_cases hjn : j < k
              · exfalso; have := HK0.out; omega
              · have hjk2 : j = k := by omega
                subst hjk2
                clear hjn hgj
                have HI9 := Lib.hid (HJ.out.last (HAT.out.star j (by rw [HK.out]; omega)))
                go_wp2_with fail
                go_roundg (K + 1 - j)
                case measure => have := HGK.out; omega
                case rel => exact ⟨j + 1, by omega, by have := HGK.out; omega, by rw [HST.out]; rfl, by go_num, HI9⟩
          | false =>
            go_wp2_with fail
            refine (KX.out _ (HP7.out.x.below HI3.out.below)).mono ?_
            rintro e w8 ⟨rfl, b8⟩
            have HI4 := Lib.hid (HI3.out.later b8)
            clear b8
            cases VX with
            | false =>
              go_wp2_with fail
              go_loopg [25] (k + 1) (fun k' v25 wr => ∃ j : Nat, j ≤ k ∧ k' + j = k + 1 ∧ v25 = .int .i64 j ∧ Hid (Inn w7 wr K (curJ TX TS rs k j)))
              case atStart => exact ⟨0, by omega, by omega, rfl, HI4.out.start⟩
              case round =>
                obtain ⟨j, hjk, hgj, rfl, HJ⟩ := hrel
                have HGJ := Lib.hid hgj
                by_cases hjn : j < k
                · exfalso; have := HK0.out; omega
                · have hjk2 : j = k := by omega
                  subst hjk2
                  clear hjn hgj
                  have HI9 := Lib.hid (HJ.out.last (HAT.out.star j (by rw [HK.out]; omega)))
                  go_wp2_with fail
                  go_roundg (K + 1 - j)
                  case measure => have := HGK.out; omega
                  case rel => exact ⟨j + 1, by omega, by have := HGK.out; omega, by rw [HST.out]; rfl, by go_num, HI9⟩
            | true =>
              go_wp2_with fail
              refine (KY.out w8 (HP7.out.y.below HI4.out.below)).mono ?_
              rintro e w9 ⟨rfl, b9⟩
              have HI5 := Lib.hid (HI4.out.later b9)
              clear b9
              go_wp2_with fail
              go_loopg [25] (k + 1) (fun k' v25 wr => ∃ j : Nat, j ≤ k ∧ k' + j = k + 1 ∧ v25 = .int .i64 j ∧ Hid (Inn w7 wr K (curJ TX TS rs k j)))
              case atStart => exact ⟨0, by omega, by omega, rfl, HI5.out.start⟩
              case round =>
                obtain ⟨j, hjk, hgj, rfl, HJ⟩ := hrel
                have HGJ := Lib.hid hgj
                by_cases hjn : j < k
                · exfalso; have := HK0.out; omega
                · have hjk2 : j = k := by omega
                  subst hjk2
                  clear hjn hgj
                  have HI9 := Lib.hid (HJ.out.last (HAT.out.star j (by rw [HK.out]; omega)))
                  go_wp2_with fail
                  go_roundg (K + 1 - j)
                  case measure => have := HGK.out; omega
                  case rel => exact ⟨j + 1, by omega, by have := HGK.out; omega, by rw [HST.out]; simp, by go_num, HI9⟩
      · have hk2 : k = K + 1 := by omega
        subst hk2
        clear hin hgk
        have hB := HAT.out.both
        rw [HK.out] at hB
        have hE := HAT.out.either
        have r1 := HI2.out.row.cell (i := K) (by omega)
        rw [curF_lt _ _ (Nat.lt_succ_self K), List.take_of_length_le (Nat.le_of_eq HK.out)] at r1
        have hlen : rs.length ≤ 1000 := by rw [HK.out]; omega
        have kb := HWB.out bb rs
        have ke := HWE.out be rs
        have kx := HWX.out bx rs
        have ky := HWY.out by_ rs
        have ks := HWS.out bs rs
        have hN : rs = [] → wholeF TS rs = true := fun h => by rw [h]; exact HAT.out.nil
        rw [hB] at kb
        rw [hE] at ke
        obtain ⟨VI, hVI⟩ : ∃ V, innF TX TY rs (K + 1) = V := ⟨_, rfl⟩
        obtain ⟨VX, hVX⟩ : ∃ V, wholeF TX rs = V := ⟨_, rfl⟩
        obtain ⟨VY, hVY⟩ : ∃ V, wholeF TY rs = V := ⟨_, rfl⟩
        obtain ⟨VS, hVS⟩ : ∃ V, wholeF TS rs = V := ⟨_, rfl⟩
        rw [hVI] at kb
        rw [hVX, hVY] at ke
        rw [hVX] at kx
        rw [hVY] at ky
        rw [hVS] at ks r1 hN
        rw [hVI]
        have KB := Lib.hid (fun W hp => kb W hp hlen HOKS.out)
        have KE := Lib.hid (fun W hp => ke W hp hlen HOKS.out)
        have KX := Lib.hid (fun W hp => kx W hp hlen HOKS.out)
        have KY := Lib.hid (fun W hp => ky W hp hlen HOKS.out)
        have KS := Lib.hid (fun W hp => ks W hp hlen HOKS.out)
        have F0 := Lib.hid (And.intro (HP7.out.below HI2.out.below) (HB7.out.trans (HI2.out.below.mono HB7.out.size)))
        have HN := Lib.hid hN
        clear hB hE hlen kb ke kx ky ks hVI hVX hVY hVS hN
        by_cases hK0 : K = 0
        · have tK : ((K : Int) == 0) = true := by rw [hK0]; rfl
          have eS : VS = true := HN.out (List.eq_nil_of_length_eq_zero (HK.out.trans hK0))
          subst eS
          clear hK0
          cases VX with
          | true =>
            rw [Bool.true_or] at KE
            go_wp2_with fail
            refine (KB.out _ F0.out.1.b).mono ?_
            rintro e wz1 ⟨rfl, bw⟩
            have F1 := Lib.hid (And.intro (F0.out.1.below bw) (F0.out.2.trans (bw.mono F0.out.2.size)))
            clear bw F0
            go_wp2_with fail
            refine (KE.out _ F1.out.1.e).mono ?_
            rintro e wz2 ⟨rfl, bw⟩
            have F2 := Lib.hid (And.intro (F1.out.1.below bw) (F1.out.2.trans (bw.mono F1.out.2.size)))
            clear bw F1
            go_wp2_with fail
            refine (KX.out _ F2.out.1.x).mono ?_
            rintro e wz3 ⟨rfl, bw⟩
            have F3 := Lib.hid (And.intro (F2.out.1.below bw) (F2.out.2.trans (bw.mono F2.out.2.size)))
            clear bw F2
            go_wp2_with fail
            refine (KS.out _ F3.out.1.s).mono ?_
            rintro e wz4 ⟨rfl, bw⟩
            have F4 := Lib.hid (And.intro (F3.out.1.below bw) (F3.out.2.trans (bw.mono F3.out.2.size)))
            clear bw F3
            go_wp2_with fail
            go_ret
            exact ⟨rfl, F4.out.2⟩
          | false =>
            rw [Bool.false_or] at KE
            go_wp2_with fail
            refine (KB.out _ F0.out.1.b).mono ?_
            rintro e wz1 ⟨rfl, bw⟩
            have F1 := Lib.hid (And.intro (F0.out.1.below bw) (F0.out.2.trans (bw.mono F0.out.2.size)))
            clear bw F0
            go_wp2_with fail
            refine (KE.out _ F1.out.1.e).mono ?_
            rintro e wz2 ⟨rfl, bw⟩
            have F2 := Lib.hid (And.intro (F1.out.1.below bw) (F1.out.2.trans (bw.mono F1.out.2.size)))
            clear bw F1
            go_wp2_with fail
            refine (KX.out _ F2.out.1.x).mono ?_
            rintro e wz3 ⟨rfl, bw⟩
            have F3 := Lib.hid (And.intro (F2.out.1.below bw) (F2.out.2.trans (bw.mono F2.out.2.size)))
            clear bw F2
            go_wp2_with fail
            refine (KY.out _ F3.out.1.y).mono ?_
            rintro e wz4 ⟨rfl, bw⟩
            have F4 := Lib.hid (And.intro (F3.out.1.below bw) (F3.out.2.trans (bw.mono F3.out.2.size)))
            clear bw F3
            go_wp2_with fail
            refine (KS.out _ F4.out.1.s).mono ?_
            rintro e wz5 ⟨rfl, bw⟩
            have F5 := Lib.hid (And.intro (F4.out.1.below bw) (F4.out.2.trans (bw.mono F4.out.2.size)))
            clear bw F4
            go_wp2_with fail
            go_ret
            exact ⟨rfl, F5.out.2⟩
        · have tK : ((K : Int) == 0) = false := beq_eq_false_iff_ne.2 (by omega)
          have tK2 : (K : Int) < (K : Int) + 1 := by omega
          clear hK0
          cases VX with
          | true =>
            rw [Bool.true_or] at KE
            go_wp2_with fail
            refine (KB.out _ F0.out.1.b).mono ?_
            rintro e wz1 ⟨rfl, bw⟩
            have F1 := Lib.hid (And.intro (F0.out.1.below bw) (F0.out.2.trans (bw.mono F0.out.2.size)))
            clear bw F0
            go_wp2_with fail
            refine (KE.out _ F1.out.1.e).mono ?_
            rintro e wz2 ⟨rfl, bw⟩
            have F2 := Lib.hid (And.intro (F1.out.1.below bw) (F1.out.2.trans (bw.mono F1.out.2.size)))
            clear bw F1
            go_wp2_with fail
            refine (KX.out _ F2.out.1.x).mono ?_
            rintro e wz3 ⟨rfl, bw⟩
            have F3 := Lib.hid (And.intro (F2.out.1.below bw) (F2.out.2.trans (bw.mono F2.out.2.size)))
            clear bw F2
            go_wp2_with fail
            refine (KS.out _ F3.out.1.s).mono ?_
            rintro e wz4 ⟨rfl, bw⟩
            have F4 := Lib.hid (And.intro (F3.out.1.below bw) (F3.out.2.trans (bw.mono F3.out.2.size)))
            clear bw F3
            go_wp2_with fail
            go_ret
            exact ⟨rfl, F4.out.2⟩
          | false =>
            rw [Bool.false_or] at KE
            go_wp2_with fail
            refine (KB.out _ F0.out.1.b).mono ?_
            rintro e wz1 ⟨rfl, bw⟩
            have F1 := Lib.hid (And.intro (F0.out.1.below bw) (F0.out.2.trans (bw.mono F0.out.2.size)))
            clear bw F0
            go_wp2_with fail
            refine (KE.out _ F1.out.1.e).mono ?_
            rintro e wz2 ⟨rfl, bw⟩
            have F2 := Lib.hid (And.intro (F1.out.1.below bw) (F1.out.2.trans (bw.mono F1.out.2.size)))
            clear bw F1
            go_wp2_with fail
            refine (KX.out _ F2.out.1.x).mono ?_
            rintro e wz3 ⟨rfl, bw⟩
            have F3 := Lib.hid (And.intro (F2.out.1.below bw) (F2.out.2.trans (bw.mono F2.out.2.size)))
            clear bw F2
            go_wp2_with fail
            refine (KY.out _ F3.out.1.y).mono ?_
            rintro e wz4 ⟨rfl, bw⟩
            have F4 := Lib.hid (And.intro (F3.out.1.below bw) (F3.out.2.trans (bw.mono F3.out.2.size)))
            clear bw F3
            go_wp2_with fail
            refine (KS.out _ F4.out.1.s).mono ?_
            rintro e wz5 ⟨rfl, bw⟩
            have F5 := Lib.hid (And.intro (F4.out.1.below bw) (F4.out.2.trans (bw.mono F4.out.2.size)))
            clear bw F4
            go_wp2_with fail
            go_ret
            exact ⟨rfl, F5.out.2⟩
  have HL3 := Lib.hid hl
  clear b7 hl hsp HB1 HB2 HB3 HB4 HB5 HB6 HP3 HP4 HP5 HP6 HPX HC HC2 HCB HCE HCS HFB HFE HFS HCP HCQ HAL HSS HRS hrow hb8
  go_wp2_with fail
  go_loopg [19, 22] (K + 2) (fun k' v19 v22 wr => ∃ k : Nat, k ≤ K + 1 ∧ k' + k = K + 2 ∧ v19 = .bool (innF TX TY rs k) ∧ v22 = .int .i64 k ∧ Hid (Inn w7 wr K (curF TS rs k)))
  case atStart => exact ⟨0, by omega, by omega, rfl, rfl, HI⟩
  case round =>
    obtain ⟨k, hk1, hgk, rfl, rfl, HI2⟩ := hrel
    have HGK := Lib.hid hgk
    by_cases hin : k ≤ K
    · have j1 : (k : Int) ≤ K := by omega
      have j2 : (k : Int) ≤ cap := by omega
      have j3 : (K : Int) ≤ cap := by omega
      have hLr : ∀ (j : Nat) (x : Int), rs[j]? = some x → wr.cell? ⟨g, j, none⟩ = some (.int .i32 x) := fun j x hx => (HI2.out.below.cell (p := ⟨g, j, none⟩) hg).trans (HL3.out j x hx)
      have hLd : ∀ (j : Nat) (x : Int), rs[j]? = some x → wr.drew.cell? ⟨g, j, none⟩ = some (.int .i32 x) := hLr
      have cv1 := Lies.part hLd 0 k cap (by rw [HK.out]; omega)
      rw [List.drop_zero] at cv1
      have cv2 := part_if hLd k (K - k) cap (by rw [HK.out]; omega) (by omega)
      rw [List.take_of_length_le (Nat.le_of_eq (by rw [List.length_drop, HK.out]))] at cv2
      have HLR := Lib.hid hLr
      have HST := Lib.hid (innF_step TX TY rs k)
      have kx := HWX.out bx (rs.take k)
      have ky := HWY.out by_ (rs.drop k)
      obtain ⟨I, hI⟩ : ∃ I, innF TX TY rs k = I := ⟨_, rfl⟩
      obtain ⟨VX, hX⟩ : ∃ V, wholeF TX (rs.take k) = V := ⟨_, rfl⟩
      obtain ⟨VY, hY⟩ : ∃ V, wholeF TY (rs.drop k) = V := ⟨_, rfl⟩
      rw [hI, hX, hY] at HST
      rw [hX] at kx
      rw [hY] at ky
      have hlt : (rs.take k).length ≤ 1000 := by rw [List.length_take, HK.out]; omega
      have hld : (rs.drop k).length ≤ 1000 := by rw [List.length_drop, HK.out]; omega
      have KX := Lib.hid (fun W hp => kx W hp hlt (fun r hr => HOKS.out r (List.mem_of_mem_take hr)))
      have KY := Lib.hid (fun W hp => ky W hp hld (fun r hr => HOKS.out r (List.mem_of_mem_drop hr)))
      rw [hI]
      clear hLr hLd kx ky hX hY hlt hld hI hgk
      have HI3 := Lib.hid HI2.out.drew
      go_wp2_with fail
      go_cut [23, 24] from 148 to 155 (fun s23 s24 wx => s23 = .string (runesBytes (rs.take k)) ∧ s24 = .string (runesBytes (rs.drop k)) ∧ wx = wr.drew)
      case first =>
        by_cases hck : cap = k
        · rw [if_pos hck, show K - k = 0 by omega, show cap - k = 0 by omega] at cv2
          subst hck
          go_region
          go_wp2_with fail
          go_meet
          exact ⟨rfl, rfl, rfl⟩
        · rw [if_neg hck] at cv2
          go_region
          go_wp2_with fail
          go_meet
          exact ⟨rfl, rfl, rfl⟩
      case rest =>
        obtain ⟨rfl, rfl, rfl⟩ := hcut
        cases I with
        | true =>
          go_wp2_with fail
          go_loopg [25] (k + 1) (fun k' v25 wr => ∃ j : Nat, j ≤ k ∧ k' + j = k + 1 ∧ v25 = .int .i64 j ∧ Hid (Inn w7 wr K (curJ TX TS rs k j)))
          case atStart => exact ⟨0, by omega, by omega, rfl, HI3.out.start⟩
          case round =>
            obtain ⟨j, hjk, hgj, rfl, HJ⟩ := hrel
            have HGJ := Lib.hid hgj
            by_cases hjn : j < k
            · have l1 : (j : Int) < k := by omega
              have l2 : (k : Int) < (K : Int) + 1 := by omega
              have l3 : (j : Int) < (K : Int) + 1 := by omega
              have l4 : (k : Int) ≤ cap := by omega
              have r1 := HJ.out.row.cell (i := k) (by omega)
              have r2 := HJ.out.row.cell (i := j) (by omega)
              have r3 := HJ.out.row.frozen k
              have HAS := Lib.hid (accF_step TX TS rs k j)
              rw [curJ_at] at r1
              rw [curJ_lt _ _ _ hjn] at r2
              have hLj : ∀ (i : Nat) (x : Int), rs[i]? = some x → wr.cell? ⟨g, i, none⟩ = some (.int .i32 x) := fun i x hx => (HJ.out.below.cell (p := ⟨g, i, none⟩) hg).trans (HL3.out i x hx)
              have cv3 := Lies.part hLj j (k - j) (cap - j) (by rw [HK.out]; omega)
              have kp := HWX.out bx ((rs.drop j).take (k - j))
              have hlp : ((rs.drop j).take (k - j)).length ≤ 1000 := by rw [List.length_take, List.length_drop, HK.out]; omega
              obtain ⟨V, hV⟩ : ∃ V, wholeF TX ((rs.drop j).take (k - j)) = V := ⟨_, rfl⟩
              obtain ⟨A, hA⟩ : ∃ A, accF TX TS rs k j = A := ⟨_, rfl⟩
              obtain ⟨G, hG⟩ : ∃ G, wholeF TS (rs.take j) = G := ⟨_, rfl⟩
              rw [hV] at kp
              rw [hA] at r1
              rw [hG] at r2
              rw [hV, hA, hG] at HAS
              have KP := Lib.hid (fun W hp => kp W hp hlp (fun r hr => HOKS.out r (List.mem_of_mem_drop (List.mem_of_mem_take hr))))
              clear hLj kp hlp hV hA hG hgj
              cases A with
              | true =>
                go_wp2_with fail
                go_roundg (k - j)
                case measure => have := HGJ.out; omega
                case rel => exact ⟨j + 1, by omega, by have := HGJ.out; omega, by go_num, HJ.out.put true (by rw [HAS.out]; rfl)⟩
              | false =>
                cases G with
                | false =>
                  go_wp2_with fail
                  go_roundg (k - j)
                  case measure => have := HGJ.out; omega
                  case rel => exact ⟨j + 1, by omega, by have := HGJ.out; omega, by go_num, HJ.out.put false (by rw [HAS.out]; rfl)⟩
                | true =>
                  go_wp2_with fail
                  refine (KP.out wr (HP7.out.x.below HJ.out.below)).mono ?_
                  rintro e w9 ⟨rfl, b9⟩
                  have HJ2 := Lib.hid (HJ.out.later b9)
                  have r4 := HJ2.out.row.cell (i := k) (by omega)
                  have r5 := HJ2.out.row.frozen k
                  clear b9 r1 r2 r3
                  go_wp2_with fail
                  go_roundg (k - j)
                  case measure => have := HGJ.out; omega
                  case rel => exact ⟨j + 1, by omega, by have := HGJ.out; omega, by go_num, HJ2.out.put V (by rw [HAS.out]; simp)⟩
            · have hjk2 : j = k := by omega
              subst hjk2
              clear hjn hgj
              have HI9 := Lib.hid (HJ.out.last (HAT.out.star j (by rw [HK.out]; omega)))
              go_wp2_with fail
              go_roundg (K + 1 - j)
              case measure => have := HGK.out; omega
              case rel => exact ⟨j + 1, by omega, by have := HGK.out; omega, by rw [HST.out]; rfl, by go_num, HI9⟩
        | false =>
          go_wp2_with fail
          refine (KX.out _ (HP7.out.x.below HI3.out.below)).mono ?_
          rintro e w8 ⟨rfl, b8⟩
          have HI4 := Lib.hid (HI3.out.later b8)
          clear b8
          cases VX with
          | false =>
            go_wp2_with fail
            go_loopg [25] (k + 1) (fun k' v25 wr => ∃ j : Nat, j ≤ k ∧ k' + j = k + 1 ∧ v25 = .int .i64 j ∧ Hid (Inn w7 wr K (curJ TX TS rs k j)))
            case atStart => exact ⟨0, by omega, by omega, rfl, HI4.out.start⟩
            case round =>
              obtain ⟨j, hjk, hgj, rfl, HJ⟩ := hrel
              have HGJ := Lib.hid hgj
              by_cases hjn : j < k
              · have l1 : (j : Int) < k := by omega
                have l2 : (k : Int) < (K : Int) + 1 := by omega
                have l3 : (j : Int) < (K : Int) + 1 := by omega
                have l4 : (k : Int) ≤ cap := by omega
                have r1 := HJ.out.row.cell (i := k) (by omega)
                have r2 := HJ.out.row.cell (i := j) (by omega)
                have r3 := HJ.out.row.frozen k
                have HAS := Lib.hid (accF_step TX TS rs k j)
                rw [curJ_at] at r1
                rw [curJ_lt _ _ _ hjn] at r2
                have hLj : ∀ (i : Nat) (x : Int), rs[i]? = some x → wr.cell? ⟨g, i, none⟩ = some (.int .i32 x) := fun i x hx => (HJ.out.below.cell (p := ⟨g, i, none⟩) hg).trans (HL3.out i x hx)
                have cv3 := Lies.part hLj j (k - j) (cap - j) (by rw [HK.out]; omega)
                have kp := HWX.out bx ((rs.drop j).take (k - j))
                have hlp : ((rs.drop j).take (k - j)).length ≤ 1000 := by rw [List.length_take, List.length_drop, HK.out]; omega
                obtain ⟨V, hV⟩ : ∃ V, wholeF TX ((rs.drop j).take (k - j)) = V := ⟨_, rfl⟩
                obtain ⟨A, hA⟩ : ∃ A, accF TX TS rs k j = A := ⟨_, rfl⟩
                obtain ⟨G, hG⟩ : ∃ G, wholeF TS (rs.take j) = G := ⟨_, rfl⟩
                rw [hV] at kp
                rw [hA] at r1
                rw [hG] at r2
                rw [hV, hA, hG] at HAS
                have KP := Lib.hid (fun W hp => kp W hp hlp (fun r hr => HOKS.out r (List.mem_of_mem_drop (List.mem_of_mem_take hr))))
                clear hLj kp hlp hV hA hG hgj
                cases A with
                | true =>
                  go_wp2_with fail
                  go_roundg (k - j)
                  case measure => have := HGJ.out; omega
                  case rel => exact ⟨j + 1, by omega, by have := HGJ.out; omega, by go_num, HJ.out.put true (by rw [HAS.out]; rfl)⟩
                | false =>
                  cases G with
                  | false =>
                    go_wp2_with fail
                    go_roundg (k - j)
                    case measure => have := HGJ.out; omega
                    case rel => exact ⟨j + 1, by omega, by have := HGJ.out; omega, by go_num, HJ.out.put false (by rw [HAS.out]; rfl)⟩
                  | true =>
                    go_wp2_with fail
                    refine (KP.out wr (HP7.out.x.below HJ.out.below)).mono ?_
                    rintro e w9 ⟨rfl, b9⟩
                    have HJ2 := Lib.hid (HJ.out.later b9)
                    have r4 := HJ2.out.row.cell (i := k) (by omega)
                    have r5 := HJ2.out.row.frozen k
                    clear b9 r1 r2 r3
                    go_wp2_with fail
                    go_roundg (k - j)
                    case measure => have := HGJ.out; omega
                    case rel => exact ⟨j + 1, by omega, by have := HGJ.out; omega, by go_num, HJ2.out.put V (by rw [HAS.out]; simp)⟩
              · have hjk2 : j = k := by omega
                subst hjk2
                clear hjn hgj
                have HI9 := Lib.hid (HJ.out.last (HAT.out.star j (by rw [HK.out]; omega)))
                go_wp2_with fail
                go_roundg (K + 1 - j)
                case measure => have := HGK.out; omega
                case rel => exact ⟨j + 1, by omega, by have := HGK.out; omega, by rw [HST.out]; rfl, by go_num, HI9⟩
          | true =>
            go_wp2_with fail
            refine (KY.out w8 (HP7.out.y.below HI4.out.below)).mono ?_
            rintro e w9 ⟨rfl, b9⟩
            have HI5 := Lib.hid (HI4.out.later b9)
            clear b9
            go_wp2_with fail
            go_loopg [25] (k + 1) (fun k' v25 wr => ∃ j : Nat, j ≤ k ∧ k' + j = k + 1 ∧ v25 = .int .i64 j ∧ Hid (Inn w7 wr K (curJ TX TS rs k j)))
            case atStart => exact ⟨0, by omega, by omega, rfl, HI5.out.start⟩
            case round =>
              obtain ⟨j, hjk, hgj, rfl, HJ⟩ := hrel
              have HGJ := Lib.hid hgj
              by_cases hjn : j < k
              · have l1 : (j : Int) < k := by omega
                have l2 : (k : Int) < (K : Int) + 1 := by omega
                have l3 : (j : Int) < (K : Int) + 1 := by omega
                have l4 : (k : Int) ≤ cap := by omega
                have r1 := HJ.out.row.cell (i := k) (by omega)
                have r2 := HJ.out.row.cell (i := j) (by omega)
                have r3 := HJ.out.row.frozen k
                have HAS := Lib.hid (accF_step TX TS rs k j)
                rw [curJ_at] at r1
                rw [curJ_lt _ _ _ hjn] at r2
                have hLj : ∀ (i : Nat) (x : Int), rs[i]? = some x → wr.cell? ⟨g, i, none⟩ = some (.int .i32 x) := fun i x hx => (HJ.out.below.cell (p := ⟨g, i, none⟩) hg).trans (HL3.out i x hx)
                have cv3 := Lies.part hLj j (k - j) (cap - j) (by rw [HK.out]; omega)
                have kp := HWX.out bx ((rs.drop j).take (k - j))
                have hlp : ((rs.drop j).take (k - j)).length ≤ 1000 := by rw [List.length_take, List.length_drop, HK.out]; omega
                obtain ⟨V, hV⟩ : ∃ V, wholeF TX ((rs.drop j).take (k - j)) = V := ⟨_, rfl⟩
                obtain ⟨A, hA⟩ : ∃ A, accF TX TS rs k j = A := ⟨_, rfl⟩
                obtain ⟨G, hG⟩ : ∃ G, wholeF TS (rs.take j) = G := ⟨_, rfl⟩
                rw [hV] at kp
                rw [hA] at r1
                rw [hG] at r2
                rw [hV, hA, hG] at HAS
                have KP := Lib.hid (fun W hp => kp W hp hlp (fun r hr => HOKS.out r (List.mem_of_mem_drop (List.mem_of_mem_take hr))))
                clear hLj kp hlp hV hA hG hgj
                cases A with
                | true =>
                  go_wp2_with fail
                  go_roundg (k - j)
                  case measure => have := HGJ.out; omega
                  case rel => exact ⟨j + 1, by omega, by have := HGJ.out; omega, by go_num, HJ.out.put true (by rw [HAS.out]; rfl)⟩
                | false =>
                  cases G with
                  | false =>
                    go_wp2_with fail
                    go_roundg (k - j)
                    case measure => have := HGJ.out; omega
                    case rel => exact ⟨j + 1, by omega, by have := HGJ.out; omega, by go_num, HJ.out.put false (by rw [HAS.out]; rfl)⟩
                  | true =>
                    go_wp2_with fail
                    refine (KP.out wr (HP7.out.x.below HJ.out.below)).mono ?_
                    rintro e w9 ⟨rfl, b9⟩
                    have HJ2 := Lib.hid (HJ.out.later b9)
                    have r4 := HJ2.out.row.cell (i := k) (by omega)
                    have r5 := HJ2.out.row.frozen k
                    clear b9 r1 r2 r3
                    go_wp2_with fail
                    go_roundg (k - j)
                    case measure => have := HGJ.out; omega
                    case rel => exact ⟨j + 1, by omega, by have := HGJ.out; omega, by go_num, HJ2.out.put V (by rw [HAS.out]; simp)⟩
              · have hjk2 : j = k := by omega
                subst hjk2
                clear hjn hgj
                have HI9 := Lib.hid (HJ.out.last (HAT.out.star j (by rw [HK.out]; omega)))
                go_wp2_with fail
                go_roundg (K + 1 - j)
                case measure => have := HGK.out; omega
                case rel => exact ⟨j + 1, by omega, by have := HGK.out; omega, by rw [HST.out]; simp, by go_num, HI9⟩
    · have hk2 : k = K + 1 := by omega
      subst hk2
      clear hin hgk
      have hB := HAT.out.both
      rw [HK.out] at hB
      have hE := HAT.out.either
      have r1 := HI2.out.row.cell (i := K) (by omega)
      rw [curF_lt _ _ (Nat.lt_succ_self K), List.take_of_length_le (Nat.le_of_eq HK.out)] at r1
      have hlen : rs.length ≤ 1000 := by rw [HK.out]; omega
      have kb := HWB.out bb rs
      have ke := HWE.out be rs
      have kx := HWX.out bx rs
      have ky := HWY.out by_ rs
      have ks := HWS.out bs rs
      have hN : rs = [] → wholeF TS rs = true := fun h => by rw [h]; exact HAT.out.nil
      rw [hB] at kb
      rw [hE] at ke
      obtain ⟨VI, hVI⟩ : ∃ V, innF TX TY rs (K + 1) = V := ⟨_, rfl⟩
      obtain ⟨VX, hVX⟩ : ∃ V, wholeF TX rs = V := ⟨_, rfl⟩
      obtain ⟨VY, hVY⟩ : ∃ V, wholeF TY rs = V := ⟨_, rfl⟩
      obtain ⟨VS, hVS⟩ : ∃ V, wholeF TS rs = V := ⟨_, rfl⟩
      rw [hVI] at kb
      rw [hVX, hVY] at ke
      rw [hVX] at kx
      rw [hVY] at ky
      rw [hVS] at ks r1 hN
      rw [hVI]
      have KB := Lib.hid (fun W hp => kb W hp hlen HOKS.out)
      have KE := Lib.hid (fun W hp => ke W hp hlen HOKS.out)
      have KX := Lib.hid (fun W hp => kx W hp hlen HOKS.out)
      have KY := Lib.hid (fun W hp => ky W hp hlen HOKS.out)
      have KS := Lib.hid (fun W hp => ks W hp hlen HOKS.out)
      have F0 := Lib.hid (And.intro (HP7.out.below HI2.out.below) (HB7.out.trans (HI2.out.below.mono HB7.out.size)))
      have HN := Lib.hid hN
      clear hB hE hlen kb ke kx ky ks hVI hVX hVY hVS hN
      by_cases hK0 : K = 0
      · have tK : ((K : Int) == 0) = true := by rw [hK0]; rfl
        have eS : VS = true := HN.out (List.eq_nil_of_length_eq_zero (HK.out.trans hK0))
        subst eS
        clear hK0
        cases VX with
        | true =>
          rw [Bool.true_or] at KE
          go_wp2_with fail
          refine (KB.out _ F0.out.1.b).mono ?_
          rintro e wz1 ⟨rfl, bw⟩
          have F1 := Lib.hid (And.intro (F0.out.1.below bw) (F0.out.2.trans (bw.mono F0.out.2.size)))
          clear bw F0
          go_wp2_with fail
          refine (KE.out _ F1.out.1.e).mono ?_
          rintro e wz2 ⟨rfl, bw⟩
          have F2 := Lib.hid (And.intro (F1.out.1.below bw) (F1.out.2.trans (bw.mono F1.out.2.size)))
          clear bw F1
          go_wp2_with fail
          refine (KX.out _ F2.out.1.x).mono ?_
          rintro e wz3 ⟨rfl, bw⟩
          have F3 := Lib.hid (And.intro (F2.out.1.below bw) (F2.out.2.trans (bw.mono F2.out.2.size)))
          clear bw F2
          go_wp2_with fail
          refine (KS.out _ F3.out.1.s).mono ?_
          rintro e wz4 ⟨rfl, bw⟩
          have F4 := Lib.hid (And.intro (F3.out.1.below bw) (F3.out.2.trans (bw.mono F3.out.2.size)))
          clear bw F3
          go_wp2_with fail
          go_ret
          exact ⟨rfl, F4.out.2⟩
        | false =>
          rw [Bool.false_or] at KE
          go_wp2_with fail
          refine (KB.out _ F0.out.1.b).mono ?_
          rintro e wz1 ⟨rfl, bw⟩
          have F1 := Lib.hid (And.intro (F0.out.1.below bw) (F0.out.2.trans (bw.mono F0.out.2.size)))
          clear bw F0
          go_wp2_with fail
          refine (KE.out _ F1.out.1.e).mono ?_
          rintro e wz2 ⟨rfl, bw⟩
          have F2 := Lib.hid (And.intro (F1.out.1.below bw) (F1.out.2.trans (bw.mono F1.out.2.size)))
          clear bw F1
          go_wp2_with fail
          refine (KX.out _ F2.out.1.x).mono ?_
          rintro e wz3 ⟨rfl, bw⟩
          have F3 := Lib.hid (And.intro (F2.out.1.below bw) (F2.out.2.trans (bw.mono F2.out.2.size)))
          clear bw F2
          go_wp2_with fail
          refine (KY.out _ F3.out.1.y).mono ?_
          rintro e wz4 ⟨rfl, bw⟩
          have F4 := Lib.hid (And.intro (F3.out.1.below bw) (F3.out.2.trans (bw.mono F3.out.2.size)))
          clear bw F3
          go_wp2_with fail
          refine (KS.out _ F4.out.1.s).mono ?_
          rintro e wz5 ⟨rfl, bw⟩
          have F5 := Lib.hid (And.intro (F4.out.1.below bw) (F4.out.2.trans (bw.mono F4.out.2.size)))
          clear bw F4
          go_wp2_with fail
          go_ret
          exact ⟨rfl, F5.out.2⟩
      · have tK : ((K : Int) == 0) = false := beq_eq_false_iff_ne.2 (by omega)
        have tK2 : (K : Int) < (K : Int) + 1 := by omega
        clear hK0
        cases VX with
        | true =>
          rw [Bool.true_or] at KE
          go_wp2_with fail
          refine (KB.out _ F0.out.1.b).mono ?_
          rintro e wz1 ⟨rfl, bw⟩
          have F1 := Lib.hid (And.intro (F0.out.1.below bw) (F0.out.2.trans (bw.mono F0.out.2.size)))
          clear bw F0
          go_wp2_with fail
          refine (KE.out _ F1.out.1.e).mono ?_
          rintro e wz2 ⟨rfl, bw⟩
          have F2 := Lib.hid (And.intro (F1.out.1.below bw) (F1.out.2.trans (bw.mono F1.out.2.size)))
          clear bw F1
          go_wp2_with fail
          refine (KX.out _ F2.out.1.x).mono ?_
          rintro e wz3 ⟨rfl, bw⟩
          have F3 := Lib.hid (And.intro (F2.out.1.below bw) (F2.out.2.trans (bw.mono F2.out.2.size)))
          clear bw F2
          go_wp2_with fail
          refine (KS.out _ F3.out.1.s).mono ?_
          rintro e wz4 ⟨rfl, bw⟩
          have F4 := Lib.hid (And.intro (F3.out.1.below bw) (F3.out.2.trans (bw.mono F3.out.2.size)))
          clear bw F3
          go_wp2_with fail
          go_ret
          exact ⟨rfl, F4.out.2⟩
        | false =>
          rw [Bool.false_or] at KE
          go_wp2_with fail
          refine (KB.out _ F0.out.1.b).mono ?_
          rintro e wz1 ⟨rfl, bw⟩
          have F1 := Lib.hid (And.intro (F0.out.1.below bw) (F0.out.2.trans (bw.mono F0.out.2.size)))
          clear bw F0
          go_wp2_with fail
          refine (KE.out _ F1.out.1.e).mono ?_
          rintro e wz2 ⟨rfl, bw⟩
          have F2 := Lib.hid (And.intro (F1.out.1.below bw) (F1.out.2.trans (bw.mono F1.out.2.size)))
          clear bw F1
          go_wp2_with fail
          refine (KX.out _ F2.out.1.x).mono ?_
          rintro e wz3 ⟨rfl, bw⟩
          have F3 := Lib.hid (And.intro (F2.out.1.below bw) (F2.out.2.trans (bw.mono F2.out.2.size)))
          clear bw F2
          go_wp2_with fail
          refine (KY.out _ F3.out.1.y).mono ?_
          rintro e wz4 ⟨rfl, bw⟩
          have F4 := Lib.hid (And.intro (F3.out.1.below bw) (F3.out.2.trans (bw.mono F3.out.2.size)))
          clear bw F3
          go_wp2_with fail
          refine (KS.out _ F4.out.1.s).mono ?_
          rintro e wz5 ⟨rfl, bw⟩
          have F5 := Lib.hid (And.intro (F4.out.1.below bw) (F4.out.2.trans (bw.mono F4.out.2.size)))
          clear bw F4
          go_wp2_with fail
          go_ret
          exact ⟨rfl, F5.out.2⟩
end Go.Proofs.Ytfpdhmecomgbdaa
