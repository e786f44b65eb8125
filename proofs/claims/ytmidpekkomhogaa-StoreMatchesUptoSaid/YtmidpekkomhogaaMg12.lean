import Derived.Test.YtmidpekkomhogaaMg11
import Derived.Test.YtmidpekkomhogaaMg03
import Derived.Deep.SlicePairs
import Derived.WalkKit
import Derived.ProofKit
import Derived.OpenShut
import Derived.SizedLaws
import Derived.ChangeSlices
import Derived.Lib.SmallJoins
import Derived.Test.YtmidpekkomhogaaRows
section
/- The store: the series that matchers mean. -/

namespace Go.Proofs.Ytmidpekkomhogaa.Sto
open Go.RowKit

theorem Alls.mono {B C : Nat} {w : World} {v : Value} {us : List (Value × Value)} {xs : List Srs} (h : Alls B w v us xs) (hC : C ≤ B) : Alls C w v us xs :=
  ⟨h.len, own_mono h.own hC, fun j x hx => by
    obtain ⟨q, h1, h2⟩ := h.told j x hx
    exact ⟨q, h1, h2.mono hC⟩, h.apart⟩
/-- The series that are meant. -/
def selC (xs : List Srs) (ms : List Mat) : List Srs := xs.filter fun x => trueB ms x.1
theorem sel_step {xs : List Srs} {ms : List Mat} {k : Nat} {x : Srs} (hx : xs[k]? = some x) : (xs.take (k + 1)).filter (fun x => trueB ms x.1) = if trueB ms x.1 then (xs.take k).filter (fun x => trueB ms x.1) ++ [x] else (xs.take k).filter (fun x => trueB ms x.1) := by
  rw [List.take_add_one, hx, List.filter_append]
  by_cases h : trueB ms x.1 = true <;> simp [h]

set_option maxHeartbeats 4000000 in
set_option maxRecDepth 100000 in
theorem select_any (F : Nat → Prop) (p nm cm : Nat) (om : Option Addr) (xs : List Srs) (ms : List Mat) (w : World) (h : St F w p xs) (hf : Fine xs) (hn : ms.length = nm) (hn2 : nm ≤ 1000000) (hok : ∀ m ∈ ms, m.Ok) (hS : SeesM w om ms) :
    Calls Try.prog 8 #[.pointer (some ⟨p, 0, none⟩), .slice om nm cm] w fun e w' =>
      ((matsB ms = false ∧ e = .returned (.tuple #[.slice none 0 0, .int .i64 1])) ∨ (matsB ms = true ∧ ∃ v us, e = .returned (.tuple #[v, .int .i64 0]) ∧ Alls w.heap.size w' v us (selC xs ms))) ∧ Below w.heap.size w w' := by
  obtain ⟨i0, hi, hz0, hz1, hz2⟩ := info_parts Ser.info38
  have HRead := Lib.hid (read_any om nm cm ms w hn hn2 hok hS)
  have HSt := Lib.hid h
  have HF := Lib.hid hf
  clear hn hok hS h hf
  cases hmb : matsB ms with
  | false =>
    rw [hmb] at HRead
    clear hmb
    go_enter Try.func8, Try.ntmps8
    go_wp2_with fail
    refine HRead.out.mono ?_
    rintro e w1 ⟨⟨v, rfl, _⟩, b1⟩
    go_wp2
    go_ret2
    exact ⟨.inl ⟨trivial, rfl⟩, b1⟩
  | true =>
    rw [hmb] at HRead
    clear hmb
    go_enter Try.func8, Try.ntmps8
    go_wp2_with fail
    refine HRead.out.mono ?_
    rintro e w1 ⟨⟨vq, rfl, hq⟩, b1⟩
    obtain ⟨qs, hqm, hA⟩ := hq trivial
    obtain ⟨oq, cq, rfl, _⟩ := own_shape hA.own
    obtain ⟨o, c, h1, h2, h3⟩ := (HSt.out.below b1).sees HF.out
    obtain ⟨n, hn⟩ : ∃ n, xs.length = n := ⟨_, rfl⟩
    obtain ⟨nq, hnq⟩ : ∃ nq, qs.length = nq := ⟨_, rfl⟩
    rw [hn] at h1 h3
    rw [hnq] at hA ⊢
    have HQM := Lib.hid hqm
    have HA := Lib.hid hA
    have HN := Lib.hid hn
    have HNQ := Lib.hid hnq
    have HS := Lib.hid h2
    have HB1 := Lib.hid b1
    have HE := Lib.hid (small_each HF.out)
    have HC := Lib.hid (fun oL (nL cL b off nP cP : Nat) (x : Srs) W h1 h2 h3 h4 h5 h6 h7 => clone_ser oL nL cL b off nP cP x W h1 h2 h3 h4 h5 h6 h7)
    have HT := Lib.hid (fun (nL cL : Nat) oL (l : Labs) W (hA : Asks w.heap.size W (.slice oq nq cq) qs) (hL : l.length = nL) (hl : Small l) (hS : SeesO W oL l) => areTrue_any w.heap.size nq cq nL cL oq oL qs l W hA HNQ.out hL hl hS)
    rw [hqm] at HT
    clear b1 hq h2 hqm hA hnq hn
    go_wp2
    go_loopw [8, 10, 27] (fun v8 v10 v27 wr => ∃ (k : Nat) (us : List (Value × Value)), v27 = .int .i64 k ∧ k ≤ n ∧ us.length ≤ k ∧ Hid (Alls w1.heap.size wr v8 us ((xs.take k).filter fun x => trueB ms x.1)) ∧ Hid (Below w1.heap.size w1 wr)) (fun _ _ v27 _ => n - (Go.RowKit.intOf v27).toNat)
    case atStart => exact ⟨0, [], rfl, Nat.zero_le _, Nat.zero_le _, alls_nil _ _, Below.refl _ _⟩
    case round =>
      obtain ⟨k, us, rfl, hk, hu, HAl, HB⟩ := hrel
      by_cases hkn : k < n
      · have j1 : (k : Int) < n := by omega
        obtain ⟨x, hx⟩ := Ser.get_lt HN.out hkn
        obtain ⟨b, off, rfl, hSS⟩ := (HS.out.below HB.out).at hx
        obtain ⟨u, v, c0, c1, oL, cL, oP, cP, rfl, rfl, hL, hP, lL, lP⟩ := hSS.at0 _ x hx
        obtain ⟨e1, e2, e3⟩ := HE.out x (List.mem_of_getElem? hx)
        obtain ⟨bP, offP, rfl, hPS⟩ := hP.resolve_left (fun h => by rw [h] at e2; simp at e2)
        obtain ⟨nL, hnL⟩ : ∃ nL, x.1.length = nL := ⟨_, rfl⟩
        obtain ⟨nP, hnP⟩ : ∃ nP, x.2.length = nP := ⟨_, rfl⟩
        rw [hnL] at c0
        rw [hnP] at c1
        obtain ⟨W, hW⟩ : ∃ W, wr.alloc (Obj.cells #[.slice oL nL cL, .slice (some ⟨bP, offP, none⟩) nP cP] 52) = W := ⟨_, rfl⟩
        have hBW : Below wr.heap.size wr W := by rw [← hW]; exact (Below.refl _ _).alloc (Nat.le_refl _) _
        have hWx : W.heap[wr.heap.size]? = some (.cells #[.slice oL nL cL, .slice (some ⟨bP, offP, none⟩) nP cP] 52 (0, 0)) := by rw [← hW]; exact Array.getElem?_push_size
        have hWs : wr.heap.size < W.heap.size := (Array.getElem?_eq_some_iff.1 hWx).1
        have rd : ∀ W', Below W.heap.size W W' → W'.cell? ⟨wr.heap.size, 0, none⟩ = some (.slice oL nL cL) ∧ W'.cell? ⟨wr.heap.size, 1, none⟩ = some (.slice (some ⟨bP, offP, none⟩) nP cP) := fun W' h => by
          have h1 := (h.block _ hWs).trans hWx
          constructor <;> simp [World.cell?, h1]
        obtain ⟨r0, r1⟩ := rd W (Below.refl _ _)
        have HRD := Lib.hid rd
        have HX := Lib.hid hx
        have HTT := Lib.hid (HT.out nL cL oL x.1 W ((HA.out.below HB.out).below hBW) hnL e1 (hL.below hBW))
        have HCC := Lib.hid (fun W' (hb : Below W.heap.size W W') => HC.out oL nL cL bP offP nP cP x W' hnL hnP e1 (by omega) (by omega) ((hL.below hBW).below hb) ((hPS.below hBW).below hb))
        have HBW := Lib.hid hBW
        have HnL := Lib.hid hnL
        have HnP := Lib.hid hnP
        clear hSS hx hL hP hPS lL lP e1 e2 e3 hWx hWs hBW rd hnL hnP
        cases htb : trueB ms x.1 with
        | false =>
          have HST := Lib.hid (show (xs.take (k + 1)).filter (fun x => trueB ms x.1) = (xs.take k).filter (fun x => trueB ms x.1) by rw [sel_step HX.out, htb]; rfl)
          rw [htb] at HTT
          clear htb HCC
          go_wp2_with fail
          refine HTT.out.mono ?_
          rintro e w2 ⟨rfl, b2⟩
          have HB2 := Lib.hid (show Below wr.heap.size wr w2 from HBW.out.trans (b2.mono HBW.out.size))
          clear b2
          go_wp2
          go_roundw
          case rel => exact ⟨k + 1, us, by go_num, by omega, by omega, by rw [HST.out]; exact HAl.out.below HB2.out, HB.out.trans (HB2.out.mono HB.out.size)⟩
          case measure => simp [Go.RowKit.intOf]; omega
        | true =>
          have HST := Lib.hid (show (xs.take (k + 1)).filter (fun x => trueB ms x.1) = (xs.take k).filter (fun x => trueB ms x.1) ++ [x] by rw [sel_step HX.out, htb]; rfl)
          rw [htb] at HTT
          clear htb
          go_wp2_with fail
          refine HTT.out.mono ?_
          rintro e w2 ⟨rfl, b2⟩
          obtain ⟨s0, s1⟩ := HRD.out w2 b2
          have HC2 := Lib.hid (HCC.out w2 b2)
          have HB2 := Lib.hid (show Below wr.heap.size wr w2 from HBW.out.trans (b2.mono HBW.out.size))
          clear b2 HCC r0 r1
          go_wp2_with fail
          refine HC2.out.mono ?_
          rintro e w3 ⟨⟨u1, u2, rfl, hT⟩, b3⟩
          obtain ⟨oA, cA, rfl, _⟩ := own_shape hT.1
          obtain ⟨oB, cB, rfl, _⟩ := own_shape hT.2
          have HB3 := Lib.hid (show Below wr.heap.size wr w3 from HB2.out.trans (b3.mono HB2.out.size))
          have HBW3 := Lib.hid (show Below w1.heap.size w1 w3 from HB.out.trans (HB3.out.mono HB.out.size))
          have HA3 := Lib.hid (HAl.out.below HB3.out)
          have HTo := Lib.hid hT
          have HSZ := Lib.hid (show w1.heap.size ≤ w2.heap.size by have := HB.out.size; have := HB2.out.size; omega)
          have HLOW := Lib.hid (show ∀ (j : Nat) (q : Value × Value), us[j]? = some q → (∀ g, q.1.ownBlock = some g → g < w2.heap.size) ∧ (∀ g, q.2.ownBlock = some g → g < w2.heap.size) from fun j q hq => by
            have h1 := HAl.out.low j q hq
            have h2 := HB2.out.size
            exact ⟨fun g hg => by have := h1.1 g hg; omega, fun g hg => by have := h1.2 g hg; omega⟩)
          have hown2 := HA3.out.own
          have hzw := HBW3.out.size
          have hn2' : us.length ≤ 1000 := by omega
          clear b3 hT HC2 s0 s1
          go_wp2_with (at_builtin; go_must (refine wpList_append_own _ rfl _ _ 29 rfl w1.heap.size 52 i0 (.agg #[.slice none 0 0, .slice none 0 0]) 2 48 Try.underlying29 hi hz0 hz1 hz2 rfl (by decide) _ _ _ rfl (hown2.alloc _) ⟨w3.heap.size, 0, none⟩ 1 1 [.slice oA x.1.length cA, .slice oB x.2.length cB] rfl rfl (Ser.cells_2v _ _ _ _ rfl) (Ser.one_2v _ _ _ _ _ _) (by unfold maxLen; omega) (by omega) (by simp; omega) ?_); intro v' w4 hown' hgrow3 hnil3)
          have hB4 : Below w1.heap.size w1 w4 := Below.grown (HBW3.out.alloc hzw _) hgrow3 (by simp; omega) (fun j hj => (hown2.lt _ hj).1)
          have hA3a : Alls w1.heap.size (w3.alloc (Obj.cells #[.slice oA x.1.length cA, .slice oB x.2.length cB] 52)) u8 us ((xs.take k).filter fun x => trueB ms x.1) := HA3.out.below ((Below.refl _ _).alloc (Nat.le_refl _) _)
          have hT3a := HTo.out.below (show Below w3.heap.size w3 (w3.alloc (Obj.cells #[.slice oA x.1.length cA, .slice oB x.2.length cB] 52)) from (Below.refl _ _).alloc (Nat.le_refl _) _)
          have HA4 := Lib.hid (show Alls w1.heap.size w4 v' (us ++ [(.slice oA x.1.length cA, .slice oB x.2.length cB)]) ((xs.take (k + 1)).filter fun x => trueB ms x.1) by
            rw [HST.out]
            exact hA3a.snoc HLOW.out HSZ.out hT3a hown' hgrow3)
          have HB4 := Lib.hid hB4
          clear hown' hgrow3 hnil3 hown2 hB4 hzw hA3a hT3a
          go_roundw
          case rel => exact ⟨k + 1, _, by go_num, by omega, by simp; omega, HA4, HB4⟩
          case measure => simp [Go.RowKit.intOf]; omega
      · have HZ := Lib.hid (show xs.take k = xs from List.take_of_length_le (by rw [HN.out]; omega))
        rw [HZ.out] at HAl
        go_wp2
        go_ret2
        exact ⟨.inr ⟨trivial, _, us, rfl, HAl.out.mono HB1.out.size⟩, HB1.out.trans (HB.out.mono HB1.out.size)⟩
end Go.Proofs.Ytmidpekkomhogaa.Sto
end

section
/- The store: a store whose blocks are all from one on; the first call, whose answer the document fixes. -/

namespace Go.Proofs.Ytmidpekkomhogaa.Sto
open Go.RowKit

/-- A store all of whose blocks are from B on. -/
def Own (B : Nat) (w : World) (p : Nat) (xs : List Srs) : Prop := St (fun k => B ≤ k ∧ k < w.heap.size) w p xs
theorem Own.on {B : Nat} {w w' : World} {p : Nat} {xs : List Srs} (h : Own B w p xs) (hb : Below w.heap.size w w') : Own B w' p xs :=
  St.same h hb.size (fun k hk => hb.block k hk.2) (fun _ hk => ⟨hk.1, Nat.lt_of_lt_of_le hk.2 hb.size⟩) fun _ hk => hk.2
theorem put_own (B : Nat) (w : World) (p m c2 : Nat) (xs : List Srs) (o2 : Option Addr) (l : Labs) (t z : Int) (h : Own B w p xs) (hf : Fine xs) (hm : l.length = m) (hls : Small l) (hS : SeesO w o2 l) :
    Calls Try.prog 7 #[.pointer (some ⟨p, 0, none⟩), .slice o2 m c2, .int .i64 t, .int .i64 z] w fun e w' =>
      e = .returned (.int .i64 (putC xs l t z).2) ∧ Below B w w' ∧ Own B w' p (putC xs l t z).1 :=
  (put_any _ w p m c2 xs o2 l t z h hf hm hls hS).mono fun e w' q => by
    obtain ⟨q1, q2, q3⟩ := q
    have hB : B ≤ w.heap.size := by have := h.fp; omega
    refine ⟨q1, q2.below hB fun k hk => hk.1, q3.same (Nat.le_refl _) (fun _ _ => rfl) (fun k hk => ?_) fun k hk => hk.2⟩
    have := q2.size
    rcases hk with hk | hk
    · exact ⟨hk.1, by omega⟩
    · exact ⟨by omega, hk.2⟩
theorem own_new (w W : World) (B : Nat) (hB : B ≤ w.heap.size) (hb : Below (w.heap.size + 1) (w.alloc (Obj.cells #[.slice none 0 0] 31)) W) : Own B W w.heap.size [] := by
  have h1 : (w.alloc (Obj.cells #[.slice none 0 0] 31)).heap[w.heap.size]? = some (.cells #[.slice none 0 0] 31 (0, 0)) := Array.getElem?_push_size
  have h2 := (hb.block w.heap.size (by omega)).trans h1
  exact st_nil h2 ⟨hB, (Array.getElem?_eq_some_iff.1 h2).1⟩ fun k hk => hk.2
theorem fine_nil : Fine [] := ⟨by simp, fun x h => by simp at h, List.Pairwise.nil⟩

def labA : Labs := [(⟨#[104, 111, 115, 116]⟩, ⟨#[97]⟩), (⟨#[109, 101, 116, 114, 105, 99]⟩, ⟨#[99, 112, 117]⟩)]
def matA : Mat := (⟨#[104, 111, 115, 116]⟩, 3, ⟨#[97, 124, 98]⟩)
theorem putA1 : putC [] labA 5 7 = ([(labA, [(5, 7)])], 0) := by kernel_rfl
theorem putA2 : putC [(labA, [(5, 7)])] labA 5 7 = ([(labA, [(5, 7)])], 6) := by kernel_rfl
theorem matA_ok : matsB [matA] = true := by kernel_rfl
theorem selA : trueB [matA] labA = true := by kernel_rfl
theorem labA_small : Small labA := ⟨by decide, by decide⟩
theorem labA_sees (w : World) (b : Nat) (h : w.heap[b]? = some (.cells #[.string ⟨#[104, 111, 115, 116]⟩, .string ⟨#[97]⟩, .string ⟨#[109, 101, 116, 114, 105, 99]⟩, .string ⟨#[99, 112, 117]⟩] 49 (0, 0))) : SeesO w (some ⟨b, 0, none⟩) labA := by
  refine .inr ⟨b, 0, rfl, (Array.getElem?_eq_some_iff.1 h).1, fun j x hx => ?_, fun j x hx => ?_⟩
  all_goals
    match j, hx with
    | 0, hx => simp [labA] at hx; subst hx; simp [World.cell?, h]
    | 1, hx => simp [labA] at hx; subst hx; simp [World.cell?, h]
    | j + 2, hx => simp [labA] at hx
end Go.Proofs.Ytmidpekkomhogaa.Sto
end

section
/- The store: the first call, whose answer the document fixes: the walk. -/

namespace Go.Proofs.Ytmidpekkomhogaa.Sto
open Go.RowKit

set_option maxHeartbeats 4000000 in
set_option maxRecDepth 100000 in
theorem alive_any (w : World) : Calls Try.prog 6 #[] w fun e w' => e = .returned (.bool true) ∧ Below w.heap.size w w' := by
  obtain ⟨W, hW⟩ : ∃ W, (w.alloc (Obj.cells #[.slice none 0 0] 31)).alloc (Obj.cells #[.string ⟨#[104, 111, 115, 116]⟩, .string ⟨#[97]⟩, .string ⟨#[109, 101, 116, 114, 105, 99]⟩, .string ⟨#[99, 112, 117]⟩] 49) = W := ⟨_, rfl⟩
  have hs1 : (w.alloc (Obj.cells #[.slice none 0 0] 31)).heap.size = w.heap.size + 1 := by simp
  have hb1 : Below (w.heap.size + 1) (w.alloc (Obj.cells #[.slice none 0 0] 31)) W := by
    rw [← hW]; exact (Below.refl _ _).alloc (by rw [hs1]; exact Nat.le_refl _) _
  have hF0 : ∀ k, k = w.heap.size → k < W.heap.size := fun k hk => by
    have := hb1.size
    rw [hs1] at this
    omega
  have hO : St (fun k => k = w.heap.size) W w.heap.size [] := st_nil ((hb1.block w.heap.size (by omega)).trans Array.getElem?_push_size) rfl hF0
  have hLx : W.heap[w.heap.size + 1]? = some (.cells #[.string ⟨#[104, 111, 115, 116]⟩, .string ⟨#[97]⟩, .string ⟨#[109, 101, 116, 114, 105, 99]⟩, .string ⟨#[99, 112, 117]⟩] 49 (0, 0)) := by
    rw [← hW, ← hs1]; exact Array.getElem?_push_size
  have hLl := (Array.getElem?_eq_some_iff.1 hLx).1
  have hbW : Below w.heap.size w W := by rw [← hW]; exact ((Below.refl _ _).alloc (Nat.le_refl _) _).alloc (by simp) _
  have hf1 : Fine [(labA, [(5, 7)])] := by have := fine_put (xs := []) 5 7 fine_nil labA_small; rw [putA1] at this; exact this
  have H1 := Lib.hid (put_any _ W w.heap.size 2 2 [] (some ⟨w.heap.size + 1, 0, none⟩) labA 5 7 hO fine_nil rfl labA_small (labA_sees W _ hLx))
  have H2 := Lib.hid (fun V (h : St (Grow (fun k => k = w.heap.size) W V) V w.heap.size [(labA, [(5, 7)])]) (hs : SeesO V (some ⟨w.heap.size + 1, 0, none⟩) labA) => put_any _ V w.heap.size 2 2 [(labA, [(5, 7)])] (some ⟨w.heap.size + 1, 0, none⟩) labA 5 7 h hf1 rfl labA_small hs)
  rw [putA1] at H1
  rw [putA2] at H2
  have HBW := Lib.hid hbW
  have HLX := Lib.hid hLx
  have HLL := Lib.hid hLl
  have HF1 := Lib.hid hf1
  clear hO hb1 hs1 hLx hbW hF0 hLl hf1
  go_enter Try.func6, Try.ntmps6
  go_wp2_with fail
  refine H1.out.mono ?_
  rintro e w1 ⟨rfl, s1, o1⟩
  have HL1 := Lib.hid ((s1.block _ HLL.out (by omega)).trans HLX.out)
  have HS1 := Lib.hid s1
  have HO1 := Lib.hid o1
  clear s1 o1 H1 hW
  go_wp2_with fail
  refine (H2.out w1 HO1.out (labA_sees w1 _ HL1.out)).mono ?_
  rintro e w2 ⟨rfl, s2, o2⟩
  have HS2 := Lib.hid (HS1.out.trans s2)
  have HO2 := Lib.hid o2
  clear s2 o2 H2
  -- what matchers mean
  have HB2 := Lib.hid (show Below w.heap.size w w2 from HBW.out.trans (HS2.out.below HBW.out.size fun k hk => by omega))
  have hMs : SeesM (w2.alloc (Obj.cells #[.string ⟨#[104, 111, 115, 116]⟩, .int .i64 3, .string ⟨#[97, 124, 98]⟩] 24)) (some ⟨w2.heap.size, 0, none⟩) [matA] := by
    refine .inr ⟨_, 0, rfl, by simp, fun j m hm => ?_⟩
    match j, hm with
    | 0, hm => simp [matA] at hm; subst hm; simp
    | j + 1, hm => simp at hm
  have H3 := Lib.hid (select_any _ w.heap.size 1 1 (some ⟨w2.heap.size, 0, none⟩) [(labA, [(5, 7)])] [matA] _ (HO2.out.below ((Below.refl w2.heap.size w2).alloc (Nat.le_refl _) (Obj.cells #[.string ⟨#[104, 111, 115, 116]⟩, .int .i64 3, .string ⟨#[97, 124, 98]⟩] 24))) HF1.out rfl (by decide) (fun m hm => by simp at hm; subst hm; exact ⟨by decide, by decide⟩) hMs)
  have hsel : selC [(labA, [(5, 7)])] [matA] = [(labA, [(5, 7)])] := by unfold selC; rw [List.filter_cons, selA]; rfl
  rw [hsel] at H3
  clear hMs hsel
  go_wp2_with fail
  refine H3.out.mono ?_
  rintro e w3 ⟨h3 | ⟨_, v, us, rfl, hA⟩, b3⟩
  · have := h3.1; rw [matA_ok] at this; cases this
  obtain ⟨q, hq, ht⟩ := hA.told 0 _ rfl
  have hus : us.length = 1 := hA.len
  obtain ⟨g, c, rfl⟩ : ∃ g c, v = .slice (some ⟨g, 0, none⟩) 1 c := by
    have h := hA.own
    rw [hus] at h
    rcases h.2 with ⟨_, h0⟩ | ⟨g, c, _, e, _⟩
    · cases h0
    · exact ⟨g, c, e⟩
  obtain ⟨f0, f1⟩ := Ser.flatU_at us 0 q hq
  have k0 := hA.own.cells (g := g) rfl _ _ f0
  have k1 := hA.own.cells (g := g) rfl _ _ f1
  obtain ⟨gp, cp, hgp⟩ : ∃ gp cp, q.2 = .slice (some ⟨gp, 0, none⟩) 1 cp := by
    rcases ht.2.2 with ⟨_, h0⟩ | ⟨g, c, _, e, _⟩
    · cases h0
    · exact ⟨g, c, e⟩
  have hp := ht.2
  rw [hgp] at hp k1
  have k2 := hp.cells (g := gp) rfl 0 (.int .i64 5) rfl
  have k3 := hp.cells (g := gp) rfl 1 (.int .i64 7) rfl
  simp [Addr.add] at k0 k1 k2 k3
  have HB3 := Lib.hid (show Below w.heap.size w w3 from HB2.out.trans ((((Below.refl w2.heap.size w2).alloc (Nat.le_refl _) _).trans (b3.mono (by simp))).mono HB2.out.size))
  have H4 := Lib.hid (points_any _ w.heap.size [(labA, [(5, 7)])] w3 ((HO2.out.below ((Below.refl w2.heap.size w2).alloc (Nat.le_refl _) _)).below b3) HF1.out)
  have hpn : (pointsN (K := Labs) [(labA, [(5, 7)])] : Nat) = 1 := rfl
  rw [hpn] at H4
  obtain ⟨q1, hq1⟩ : ∃ q1, q.1 = q1 := ⟨_, rfl⟩
  rw [hq1] at k0
  clear hA ht hp hgp hus hq f0 f1 b3 H3 hpn
  go_wp2_with fail
  refine H4.out.mono ?_
  rintro e w4 ⟨rfl, b4⟩
  go_wp2
  go_ret
  exact ⟨rfl, HB3.out.trans (b4.mono HB3.out.size)⟩
end Go.Proofs.Ytmidpekkomhogaa.Sto
end

section
/- The store: what is put in, as it is handed to the laws: read; few and short. -/

namespace Go.Proofs.Ytmidpekkomhogaa.Sto
open Go.RowKit

/-- Something that is put: does a copy take the store's place, labels, time, number. -/
abbrev OpT := Bool × Labs × Int × Int
def OneP (w : World) (b o : Nat) (x : OpT) : Prop := ∃ oL cL, w.cell? ⟨b, o, none⟩ = some (.bool x.1) ∧ w.cell? ⟨b, o + 1, none⟩ = some (.slice oL x.2.1.length cL) ∧ SeesO w oL x.2.1 ∧ x.2.1.length ≤ maxLen ∧ w.cell? ⟨b, o + 2, none⟩ = some (.int .i64 x.2.2.1) ∧ w.cell? ⟨b, o + 3, none⟩ = some (.int .i64 x.2.2.2)
/-- A slice that reads as these. -/
def SeesP (w : World) (o : Option Addr) (xs : List OpT) : Prop := xs = [] ∨ ∃ b off, o = some ⟨b, off, none⟩ ∧ b < w.heap.size ∧ ∀ (j : Nat) (x : OpT), xs[j]? = some x → OneP w b (off + j * 4) x
theorem SeesP.below {w w' : World} {o : Option Addr} {xs : List OpT} (h : SeesP w o xs) (hb : Below w.heap.size w w') : SeesP w' o xs :=
  h.imp id fun ⟨b, off, e, h1, h2⟩ => ⟨b, off, e, Nat.lt_of_lt_of_le h1 hb.size, fun j x hx => by
    obtain ⟨oL, cL, a1, a2, a3, a4, a5, a6⟩ := h2 j x hx
    exact ⟨oL, cL, (hb.cell (p := ⟨b, off + j * 4, none⟩) h1).trans a1, (hb.cell (p := ⟨b, off + j * 4 + 1, none⟩) h1).trans a2, a3.below hb, a4, (hb.cell (p := ⟨b, off + j * 4 + 2, none⟩) h1).trans a5, (hb.cell (p := ⟨b, off + j * 4 + 3, none⟩) h1).trans a6⟩⟩
theorem SeesP.at {w : World} {o : Option Addr} {xs : List OpT} (h : SeesP w o xs) {k : Nat} {x : OpT} (hx : xs[k]? = some x) : ∃ b off, o = some ⟨b, off, none⟩ ∧ OneP w b (off + k * 4) x := by
  rcases h with rfl | ⟨b, off, e, _, h⟩
  · simp at hx
  · exact ⟨b, off, e, h k x hx⟩
def lightP (xs : List OpT) : Bool := (xs.take 150).all (fun x => lightB x.2.1) && decide ((xs.length : Int) ≤ 120)
theorem lightB_small {l : Labs} (h : lightB l = true) : Small l := by
  unfold lightB at h
  rw [Bool.and_eq_true, List.all_eq_true] at h
  obtain ⟨h1, h2⟩ := h
  have h3 : l.length ≤ 20 := by simp at h2; omega
  refine ⟨by omega, fun y hy => ?_⟩
  have := h1 y (by rw [List.take_of_length_le (by omega)]; exact hy)
  unfold shortB at this
  simp at this
  omega
theorem lightP_len {xs : List OpT} (h : lightP xs = true) : xs.length ≤ 120 := by
  unfold lightP at h
  simp at h
  omega
theorem lightP_small {xs : List OpT} (h : lightP xs = true) : ∀ x ∈ xs, Small x.2.1 := fun x hx => by
  have hl := lightP_len h
  unfold lightP at h
  rw [Bool.and_eq_true, List.all_eq_true] at h
  exact lightB_small (h.1 x (by rw [List.take_of_length_le (by omega)]; exact hx))

set_option maxHeartbeats 4000000 in
set_option maxRecDepth 100000 in
theorem lightP_any (o : Option Addr) (n c : Nat) (xs : List OpT) (w : World) (hn : xs.length = n) (hm : n ≤ maxLen) (hS : SeesP w o xs) :
    Calls Try.prog 4 #[.slice o n c] w fun e w' => e = .returned (.bool (lightP xs)) ∧ Below w.heap.size w w' := by
  obtain ⟨R, hR⟩ : ∃ R, lightP xs = R := ⟨_, rfl⟩
  rw [hR]
  have HR := Lib.hid hR
  have HN := Lib.hid hn
  have HS := Lib.hid hS
  have HL := Lib.hid (fun oL cL (l : Labs) W hm hS => light_any oL cL l W hm hS)
  unfold maxLen at hm
  clear hR hS hn
  go_enter Try.func4, Try.ntmps4
  go_wp2
  go_loopw [3] (fun v3 wr => ∃ k : Nat, v3 = .int .i64 k ∧ k ≤ n ∧ k ≤ 150 ∧ Hid ((xs.take k).all (fun x => lightB x.2.1) = true) ∧ Hid (Below w.heap.size w wr)) (fun v3 _ => n - (Go.RowKit.intOf v3).toNat)
  case atStart => exact ⟨0, rfl, Nat.zero_le _, by omega, rfl, Below.refl _ _⟩
  case round =>
    obtain ⟨k, rfl, hk, hk2, HA, HB⟩ := hrel
    by_cases hkn : k < n
    · have j1 : (k : Int) < n := by omega
      by_cases hk15 : k < 150
      · have j2 : (k : Int) < 150 := by omega
        obtain ⟨x, hx⟩ : ∃ x, xs[k]? = some x := ⟨_, List.getElem?_eq_getElem (by rw [HN.out]; exact hkn)⟩
        obtain ⟨b, off, rfl, hO⟩ := (HS.out.below HB.out).at hx
        obtain ⟨oL, cL, a1, a2, a3, a4, a5, a6⟩ := hO
        have HC := Lib.hid (HL.out oL cL x.2.1 wr a4 a3)
        have HX := Lib.hid hx
        clear hx a3 a4
        generalize x.2.1.length = nL at a2 HC
        cases hl : lightB x.2.1 with
        | false =>
          have HF := Lib.hid (show R = false by
            rw [← HR.out]
            unfold lightP
            rw [Bool.and_eq_false_iff]
            left
            rw [Bool.eq_false_iff]
            intro h
            rw [List.all_eq_true] at h
            have hmem : x ∈ xs.take 150 := by
              apply List.mem_of_getElem? (i := k)
              rw [List.getElem?_take, if_pos hk15]; exact HX.out
            rw [h x hmem] at hl
            cases hl)
          rw [hl] at HC
          clear hl
          go_wp2_with fail
          refine HC.out.mono ?_
          rintro e w2 ⟨rfl, b2⟩
          go_wp2
          go_ret
          obtain rfl := HF.out
          exact ⟨rfl, HB.out.trans (b2.mono HB.out.size)⟩
        | true =>
          have HA2 := Lib.hid (show (xs.take (k + 1)).all (fun x => lightB x.2.1) = true by
            rw [List.take_add_one, HX.out, List.all_append, HA.out]; simp [hl])
          rw [hl] at HC
          clear hl
          go_wp2_with fail
          refine HC.out.mono ?_
          rintro e w2 ⟨rfl, b2⟩
          have HB2 := Lib.hid (HB.out.trans (b2.mono HB.out.size))
          clear b2
          go_wp2
          go_roundw
          case rel => exact ⟨k + 1, by go_num, by omega, by omega, HA2, HB2⟩
          case measure => simp [Go.RowKit.intOf]; omega
      · obtain rfl : k = 150 := by omega
        have j2 : ¬ ((150 : Nat) : Int) < 150 := by omega
        have HF := Lib.hid (show R = false by
          rw [← HR.out]; unfold lightP; rw [HN.out, decide_eq_false (by omega), Bool.and_false])
        have j3 : ¬ (n : Int) ≤ 120 := by omega
        go_wp2
        go_ret
        obtain rfl := HF.out
        exact ⟨rfl, HB.out⟩
    · have hkn2 : k = n := by omega
      subst hkn2
      have HF := Lib.hid (show R = decide ((k : Int) ≤ 120) by
        have h1 : xs.take k = xs := List.take_of_length_le (by rw [HN.out]; exact Nat.le_refl _)
        have h2 := HA.out
        rw [h1] at h2
        rw [← HR.out]; unfold lightP; rw [List.take_of_length_le (by rw [HN.out]; exact hk2), h2, HN.out, Bool.true_and])
      go_wp2
      go_ret
      obtain rfl := HF.out
      exact ⟨rfl, HB.out⟩
/-- All that is put in, one after another. -/
def putsC (xs : List Srs) (ops : List OpT) : List Srs := ops.foldl (fun s x => (putC s x.2.1 x.2.2.1 x.2.2.2).1) xs
theorem puts_step {xs : List Srs} {ops : List OpT} {k : Nat} {x : OpT} (hx : ops[k]? = some x) : putsC xs (ops.take (k + 1)) = (putC (putsC xs (ops.take k)) x.2.1 x.2.2.1 x.2.2.2).1 := by
  unfold putsC
  rw [List.take_add_one, hx, List.foldl_append]; rfl
theorem fine_puts : ∀ (ops : List OpT) {xs : List Srs}, Fine xs → (∀ x ∈ ops, Small x.2.1) → Fine (putsC xs ops)
  | [], _, h, _ => h
  | o :: ops, _, h, hs => fine_puts ops (fine_put o.2.2.1 o.2.2.2 h (hs o List.mem_cons_self)) fun x hx => hs x (List.mem_cons_of_mem _ hx)
end Go.Proofs.Ytmidpekkomhogaa.Sto
end

section
/- Arguments opened: slices of pairs, whatever the two parts are; lists of labels, of points, of series. -/

namespace Go.Proofs.Ytmidpekkomhogaa.Opn
open Go.ChangeShapes Go.WideShapes Go.ChangeAt Go.RowKit

section
variable {H : Type} {enc : TypeId × Value → H} {W : World}
end
end Go.Proofs.Ytmidpekkomhogaa.Opn
end

section
/- Arguments opened: slices of structs, of however many cells. -/

namespace Go.Proofs.Ytmidpekkomhogaa.Opn
open Go.ChangeShapes Go.WideShapes Go.ChangeAt Go.RowKit

end Go.Proofs.Ytmidpekkomhogaa.Opn
end

section
/- What the arguments give the walks: what is put; matchers; series. -/

namespace Go.Proofs.Ytmidpekkomhogaa
open Go.ChangeShapes Go.WideShapes Go.ChangeAt Go.RowKit

theorem own : ownKnob Try.prog.godebug = none := by kernel_rfl
end Go.Proofs.Ytmidpekkomhogaa
end

section
/- The walk of the statement on copies. -/

namespace Go.Proofs.Ytmidpekkomhogaa.Sto
open Go.RowKit

theorem Alls.keep {B : Nat} {w w' : World} {v : Value} {us : List (Value × Value)} {xs : List Srs} (h : Alls B w v us xs) (hk : ∀ k, B ≤ k → k < w.heap.size → w'.heap[k]? = w.heap[k]?) : Alls B w' v us xs := by
  have own : ∀ {e n : Nat} {u : Value} {L : List Value}, w.ownsRow B e 2 u n L → w'.ownsRow B e 2 u n L := fun ho => own_same ho fun g hg => hk g (ho.lt g hg).1 (ho.lt g hg).2
  exact ⟨h.len, own h.own, fun j x hx => by
    obtain ⟨q, h1, h2⟩ := h.told j x hx
    exact ⟨q, h1, own h2.1, own h2.2⟩, h.apart⟩
theorem Alls.sees {B : Nat} {w : World} {v : Value} {us : List (Value × Value)} {xs : List Srs} (h : Alls B w v us xs) : ∃ o c, v = .slice o xs.length c ∧ Ser.SeesO w o xs ∧ xs.length ≤ maxLen := h.ownU.sees
end Go.Proofs.Ytmidpekkomhogaa.Sto
end
