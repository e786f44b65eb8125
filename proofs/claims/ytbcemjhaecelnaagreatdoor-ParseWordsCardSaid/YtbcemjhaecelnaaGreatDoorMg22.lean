import Derived.Test.YtbcemjhaecelnaaGreatDoorMg21
section
set_option maxHeartbeats 4000000
set_option maxRecDepth 100000
section
namespace Go.Proofs.YtbcemjhaecelnaaGreatDoor.Par
open Go.RowKit Go.Lib
open Go.Proofs.YtbcemjhaecelnaaGreatDoor.Sto
theorem ResQ.shape {w w' : World} {bd : Nat} {Q : Nat -> Prop} {r : Option (Ex × List Tq)} {e : Ending} (h : ResQ w bd Q r e w') :
 ∃ a b n m o1 k1 c1 o2 k2 c2 o3 k3 c3, e = .returned (.tuple #[.agg #[.string a, .string b, .int .i64 n, .int .i64 m, .slice o1 k1 c1, .slice o2 k2 c2, .slice o3 k3 c3], .bool r.isSome]) := by
 cases r with
 | none =>
   obtain ⟨cs, rfl, ⟨a, b, n, m, o1, k1, c1, o2, k2, c2, o3, k3, c3, rfl⟩, _⟩ := h
   exact ⟨_, _, _, _, _, _, _, _, _, _, _, _, _, rfl⟩
 | some p =>
   obtain ⟨cs, rfl, hn, _⟩ := h
   obtain ⟨a, b, n, m, o1, k1, c1, o2, k2, c2, o3, k3, c3, rfl⟩ := hn.raw
   exact ⟨_, _, _, _, _, _, _, _, _, _, _, _, _, rfl⟩
theorem ResQ.part {w w' : World} {bd : Nat} {Q : Nat -> Prop} {x : Ex} {m : List Tq} {xs : Array Value} {b : Bool} (h : ResQ w bd Q (some (x, m)) (.returned (.tuple #[.agg xs, .bool b])) w') : Nod w' (fun b => Q b \/ w.heap.size <= b) xs.toList x /\ Rd w' bd m /\ w.grownBy w' (some bd) := by
 obtain ⟨cs, he, h1, h2, h3⟩ := h
 rw [zgo he]; exact ⟨h1, h2, h3⟩
theorem ResQ.wide {w w' : World} {bd : Nat} {Q : Nat -> Prop} {r : Option (Ex × List Tq)} {e : Ending} (h : ResQ w bd Q r e w') : w.grownBy w' (some bd) := by
 cases r with
 | none => obtain ⟨_, _, _, h⟩ := h; exact h
 | some p => obtain ⟨_, _, _, _, h⟩ := h; exact h
def ChainLoop (w0 : World) (bd xb t N : Nat) (T : Option (Ex × List Tq)) (k : Nat) (v : Value) (wr : World) : Prop :=
 ∃ a b z m o1 k1 c1 o2 k2 c2 o3 k3 c3, Box7 wr xb (.string a) (.string b) (.int .i64 z) (.int .i64 m) (.slice o1 k1 c1) (.slice o2 k2 c2) (.slice o3 k3 c3) /\ Box7 wr w0.heap.size (.string ⟨#[]⟩) (.string ⟨#[]⟩) (.int .i64 0) (.int .i64 0) (.slice none 0 0) (.slice none 0 0) (.slice none 0 0) /\ w0.grownBy wr (some bd) /\ w0.heap.size < xb /\
  ((v = .bool true /\ ∃ (n : Nat) (x : Ex) (l : List Tq), l.length <= k /\ zbi n t x l = T /\ 9 * l.length + 1 <= n /\ n <= N /\ Nod wr (fun b => w0.heap.size < b /\ b ≠ xb) [.string a, .string b, .int .i64 z, .int .i64 m, .slice o1 k1 c1, .slice o2 k2 c2, .slice o3 k3 c3] x /\ Rd wr bd l) \/ (v = .bool false /\ T = none))
theorem chain_low (N t : Nat) (ht1 : 1 <= t) (ht3 : t <= 3) (hBin : ∀ k, k < N -> BinC k) (hC : ChainC N) (l : List Tq) (hl : 9 * l.length + 8 <= N + 1 + t) (w : World) (bd : Nat) (h : Rd w bd l) :
 Calls Tryz.prog 66 #[.pointer (some ⟨bd, 0, none⟩), .int .i64 (t : Nat)] w (Res w bd (chainGo (N + 1) t l)) := by
 have hfar := h.lt
 have HB := zh (zal w (.string ⟨#[]⟩) (.string ⟨#[]⟩) (.int .i64 0) (.int .i64 0) (.slice none 0 0) (.slice none 0 0) (.slice none 0 0))
 have HG := zh (grown_alloc (grown_refl w (some bd)) (Obj.cells #[.string ⟨#[]⟩, .string ⟨#[]⟩, .int .i64 0, .int .i64 0, .slice none 0 0, .slice none 0 0, .slice none 0 0] 27))
 obtain ⟨T, hT⟩ : ∃ T, chainGo (N + 1) t l = T := ⟨_, rfl⟩
 rw [hT]
 rw [chainGo, if_neg (by omega)] at hT
 have HCC := zh (hC (t + 1) l (by omega) (by omega) (by omega) _ bd (h.alloc (Obj.cells #[.string ⟨#[]⟩, .string ⟨#[]⟩, .int .i64 0, .int .i64 0, .slice none 0 0, .slice none 0 0, .slice none 0 0] 27)))
 have hlen : ∀ x m, chainGo N (t + 1) l = some (x, m) -> m.length < l.length := fun x m hx => (zhJ N).1 _ _ _ _ hx
 have jt : IntKind.i64.wrap ((t : Int) + 1) = ((t + 1 : Nat) : Int) := by rw [IntWalk.i64_in _ (by omega)]; omega
 have i3 : ¬ (3 : Int) < t := by omega
 obtain ⟨r, hr⟩ : ∃ r, chainGo N (t + 1) l = r := ⟨_, rfl⟩
 rw [hr] at HCC hT hlen
 have HT := zh hT
 have HLN := zh hlen
 have HBN := zh hBin
 obtain ⟨L, hL⟩ : ∃ L, l.length = L := ⟨_, rfl⟩
 rw [hL] at hl HLN
 have hLL : L <= 1000000 := by have := h.few; omega
 obtain ⟨t1, ht1'⟩ : ∃ t1, t + 1 = t1 := ⟨_, rfl⟩
 rw [ht1'] at jt HCC
 clear h hC hT hlen hr hL hBin
 go_enter Tryz.func66, Tryz.ntmps66
 go_wp2_with fail
 refine HCC.out.mono ?_
 intro e w1 hres
 have HRES := zh hres
 have HB1 := zh (show Box7 w1 w.heap.size (.string ⟨#[]⟩) (.string ⟨#[]⟩) (.int .i64 0) (.int .i64 0) (.slice none 0 0) (.slice none 0 0) (.slice none 0 0) from zaa HB.out hres.wide (by omega))
 have HG1 := zh (grown_trans HG.out hres.wide)
 have hsz1 : w.heap.size < w1.heap.size := Nat.lt_of_lt_of_le (by simp) hres.wide.size
 obtain ⟨a, b, z, m, o1, k1, c1, o2, k2, c2, o3, k3, c3, rfl⟩ := hres.shape
 clear hres
 have HST : ChainLoop w bd w1.heap.size t N T L (.bool r.isSome) (w1.alloc (Obj.cells #[.string a, .string b, .int .i64 z, .int .i64 m, .slice o1 k1 c1, .slice o2 k2 c2, .slice o3 k3 c3] 27)) := by
  refine ⟨a, b, z, m, o1, k1, c1, o2, k2, c2, o3, k3, c3, zal w1 (.string a) (.string b) (.int .i64 z) (.int .i64 m) (.slice o1 k1 c1) (.slice o2 k2 c2) (.slice o3 k3 c3), (Below.heap_alloc _ _ _ hsz1).trans HB1.out, grown_alloc HG1.out _, hsz1, ?_⟩
  cases r with
  | none => exact .inr ⟨rfl, (show none = T from HT.out).symm⟩
  | some p =>
    obtain ⟨x, mm⟩ := p
    obtain ⟨h1, h2, _⟩ := HRES.out.part
    have hm := HLN.out x mm rfl
    exact .inl ⟨rfl, N, x, mm, Nat.le_of_lt hm, HT.out, by omega, Nat.le_refl _, h1.keep fun b hb hl => ⟨Below.heap_alloc _ _ _ hl, by simp at hb; omega, by omega⟩, h2.alloc _⟩
 go_wp2_with fail
 obtain ⟨xb, hxb⟩ : ∃ xb, w1.heap.size = xb := ⟨_, rfl⟩
 rw [hxb] at HST ⊢
 go_loopg [7] L (fun k v wr => ChainLoop w bd xb t N T k v wr)
 case atStart => exact HST
 case round =>
  clear HST
  obtain ⟨a, b, z, m, o1, k1, c1, o2, k2, c2, o3, k3, c3, hbx, hbr, hg, hlt, hcase⟩ := hrel
  have HX := zh hbx
  have HZ := zh hbr
  have HGR := zh hg
  clear hbx hbr hg
  rcases hcase with ⟨rfl, n, x, l2, hk, hrest, hn1, hnN, hnod, hrd⟩ | ⟨rfl, hTn⟩
  ·have HND := zh hnod
   have HLV := zh (level_any bd l2 _ hrd)
   have hl2 := hrd.few
   obtain ⟨n, rfl⟩ : ∃ q, n = q + 1 := ⟨n - 1, by omega⟩
   rw [zbi] at hrest
   obtain ⟨lv, hlv⟩ : ∃ lv, levelT l2 = lv := ⟨_, rfl⟩
   rw [hlv] at HLV
   clear hnod hrd
   by_cases hlt2 : lv = t
   ·rw [if_pos (hlv.trans hlt2)] at hrest
    have HBI := zh (HBN.out n (by omega) t x l2 ht1 ht3 (hlv.trans hlt2) (by omega))
    have hpos : 1 <= l2.length := by
     cases l2 with
     | nil => simp [levelT] at hlv; omega
     | cons y ys => simp
    have hml : ∀ y q, zbP n t x l2 = some (y, q) -> q.length < l2.length := fun y q hq => (zhJ n).2.2.1 _ _ _ _ _ hq
    obtain ⟨rr, hrr⟩ : ∃ rr, zbP n t x l2 = rr := ⟨_, rfl⟩
    rw [hrr] at HBI hrest hml
    have HRS := zh hrest
    have HML := zh hml
    subst hlt2
    clear hrest hml hrr hlv
    go_wp2_with fail
    refine HLV.out.mono ?_
    rintro e w2 ⟨rfl, hr2, hg2⟩
    have HX2 := zh (zaa HX.out hg2 (by omega))
    have HZ2 := zh (zaa HZ.out hg2 (by omega))
    have HG2 := zh (grown_trans HGR.out hg2)
    have hsz2 : xb < w2.heap.size := (Array.getElem?_eq_some_iff.1 HX2.out).1
    have HBW := zh (HBI.out w2 bd (fun b => w.heap.size < b /\ b ≠ xb) a b z m o1 k1 c1 o2 k2 c2 o3 k3 c3 hr2 (fun b hb => by omega) (HND.out.grown hg2 (fun b hb => by omega)))
    clear hr2 hg2
    obtain ⟨⟨q0, q1, q2, q3, q4, q5, q6⟩, f0, f1, f2, f3, f4, f5, f6⟩ := (show Box7 w2 xb (.string a) (.string b) (.int .i64 z) (.int .i64 m) (.slice o1 k1 c1) (.slice o2 k2 c2) (.slice o3 k3 c3) from HX2.out).reads
    go_wp2_with fail
    refine HBW.out.mono ?_
    intro e w3 hres
    have HRES3 := zh hres
    have HX3 := zh (show Box7 w3 xb (.string a) (.string b) (.int .i64 z) (.int .i64 m) (.slice o1 k1 c1) (.slice o2 k2 c2) (.slice o3 k3 c3) from zaa HX2.out hres.wide (by omega))
    have HZ3 := zh (show Box7 w3 w.heap.size (.string ⟨#[]⟩) (.string ⟨#[]⟩) (.int .i64 0) (.int .i64 0) (.slice none 0 0) (.slice none 0 0) (.slice none 0 0) from zaa HZ2.out hres.wide (by omega))
    have HG3 := zh (grown_trans HG2.out hres.wide)
    obtain ⟨a2, b2, z2, m2, p1, j1, d1, p2, j2, d2, p3, j3, d3, rfl⟩ := hres.shape
    clear hres q0 q1 q2 q3 q4 q5 q6 f0 f1 f2 f3 f4 f5 f6
    obtain ⟨⟨q0, q1, q2, q3, q4, q5, q6⟩, f0, f1, f2, f3, f4, f5, f6⟩ := HX3.out.reads
    cases rr with
    | none =>
      go_wp2
      go_roundg 0
      case measure => omega
      case rel => exact ⟨a2, b2, z2, m2, p1, j1, d1, p2, j2, d2, p3, j3, d3, zfI HX3.out _ _ _ _ _ _ _, zdz HZ3.out (by omega) _ _ _ _ _ _ _, zaf HG3.out (by omega) _ _ _ _ _ _ _, hlt, .inr ⟨rfl, (show none = T from HRS.out).symm⟩⟩
    | some pp =>
      obtain ⟨y, mm⟩ := pp
      have hm := HML.out y mm rfl
      go_wp2
      go_roundg mm.length
      case measure => omega
      case rel =>
       obtain ⟨h1, h2, _⟩ := HRES3.out.part
       exact ⟨a2, b2, z2, m2, p1, j1, d1, p2, j2, d2, p3, j3, d3, zfI HX3.out _ _ _ _ _ _ _, zdz HZ3.out (by omega) _ _ _ _ _ _ _, zaf HG3.out (by omega) _ _ _ _ _ _ _, hlt, .inl ⟨rfl, n, y, mm, Nat.le_refl _, HRS.out, by omega, by omega, zba h1 (fun b hb => by omega) _ _ _ _ _ _ _, zcs h2 (by omega) _ _ _ _ _ _ _⟩⟩
   ·rw [if_neg (by rw [hlv]; exact hlt2)] at hrest
    have HRS := zh hrest
    have e1 : ((lv : Int) == (t : Int)) = false := by simp; omega
    clear hrest hlv
    go_wp2_with fail
    refine HLV.out.mono ?_
    rintro e w2 ⟨rfl, hr2, hg2⟩
    have HX2 := zh (show Box7 w2 xb (.string a) (.string b) (.int .i64 z) (.int .i64 m) (.slice o1 k1 c1) (.slice o2 k2 c2) (.slice o3 k3 c3) from zaa HX.out hg2 (by omega))
    have HZ2 := zh (show Box7 w2 w.heap.size (.string ⟨#[]⟩) (.string ⟨#[]⟩) (.int .i64 0) (.int .i64 0) (.slice none 0 0) (.slice none 0 0) (.slice none 0 0) from zaa HZ.out hg2 (by omega))
    have HG2 := zh (grown_trans HGR.out hg2)
    have HR2 := zh hr2
    have HN2 := zh (HND.out.grown hg2 (fun b hb => by omega))
    clear hr2 hg2
    obtain ⟨⟨q0, q1, q2, q3, q4, q5, q6⟩, f0, f1, f2, f3, f4, f5, f6⟩ := HX2.out.reads
    obtain ⟨⟨p0, p1, p2, p3, p4, p5, p6⟩, g0, g1, g2, g3, g4, g5, g6⟩ := HZ2.out.reads
    go_wp2
    refine bodyPost_ret (v := .tuple #[.agg #[.string a, .string b, .int .i64 z, .int .i64 m, .slice o1 k1 c1, .slice o2 k2 c2, .slice o3 k3 c3], .bool true]) (by simp [results, Tryz.results66, go_sem, p0, p1, p2, p3, p4, p5, p6]) rfl ?_
    rw [<- HRS.out]
    exact ⟨_, rfl, zba HN2.out (fun b hb => by omega) _ _ _ _ _ _ _, zcs HR2.out hfar _ _ _ _ _ _ _, zaf HG2.out (Nat.le_refl _) _ _ _ _ _ _ _⟩
  ·have HT2 := zh hTn
   clear hTn
   obtain ⟨⟨q0, q1, q2, q3, q4, q5, q6⟩, f0, f1, f2, f3, f4, f5, f6⟩ := HX.out.reads
   obtain ⟨⟨p0, p1, p2, p3, p4, p5, p6⟩, g0, g1, g2, g3, g4, g5, g6⟩ := HZ.out.reads
   go_wp2
   refine bodyPost_ret (v := .tuple #[.agg #[.string a, .string b, .int .i64 z, .int .i64 m, .slice o1 k1 c1, .slice o2 k2 c2, .slice o3 k3 c3], .bool false]) (by simp [results, Tryz.results66, go_sem, p0, p1, p2, p3, p4, p5, p6]) rfl ?_
   rw [HT2.out]
   exact ⟨_, rfl, raw7 _ _ _ _ _ _ _ _ _ _ _ _ _, zaf HGR.out (Nat.le_refl _) _ _ _ _ _ _ _⟩
theorem chain_top (N : Nat) (hU : zgp N) (l : List Tq) (hl : 9 * l.length + 3 <= N) (w : World) (bd : Nat) (h : Rd w bd l) :
 Calls Tryz.prog 66 #[.pointer (some ⟨bd, 0, none⟩), .int .i64 4] w (Res w bd (chainGo (N + 1) 4 l)) := by
 have hfar := h.lt
 have HB := zh (zal w (.string ⟨#[]⟩) (.string ⟨#[]⟩) (.int .i64 0) (.int .i64 0) (.slice none 0 0) (.slice none 0 0) (.slice none 0 0))
 have HG := zh (grown_alloc (grown_refl w (some bd)) (Obj.cells #[.string ⟨#[]⟩, .string ⟨#[]⟩, .int .i64 0, .int .i64 0, .slice none 0 0, .slice none 0 0, .slice none 0 0] 27))
 have HCC := zh (hU l hl _ bd (h.alloc (Obj.cells #[.string ⟨#[]⟩, .string ⟨#[]⟩, .int .i64 0, .int .i64 0, .slice none 0 0, .slice none 0 0, .slice none 0 0] 27)))
 rw [show chainGo (N + 1) 4 l = zat N l by rw [chainGo, if_pos (by decide)]]
 generalize zat N l = r at HCC ⊢
 clear h hU hl
 go_enter Tryz.func66, Tryz.ntmps66
 go_wp2_with fail
 refine HCC.out.mono ?_
 intro e w1 hres
 have HRES := zh hres
 have HB1 := zh (show Box7 w1 w.heap.size (.string ⟨#[]⟩) (.string ⟨#[]⟩) (.int .i64 0) (.int .i64 0) (.slice none 0 0) (.slice none 0 0) (.slice none 0 0) from zaa HB.out hres.wide (by omega))
 obtain ⟨a, b, z, m, o1, k1, c1, o2, k2, c2, o3, k3, c3, rfl⟩ := hres.shape
 clear hres
 obtain ⟨⟨q0, q1, q2, q3, q4, q5, q6⟩, f0, f1, f2, f3, f4, f5, f6⟩ := HB1.out.reads
 go_wp2
 refine bodyPost_ret (v := .tuple #[.agg #[.string a, .string b, .int .i64 z, .int .i64 m, .slice o1 k1 c1, .slice o2 k2 c2, .slice o3 k3 c3], .bool r.isSome]) (by simp [results, Tryz.results66, go_sem, q0, q1, q2, q3, q4, q5, q6]) rfl ?_
 exact HRES.out.through HG.out rfl (by simp) hfar (raw7 _ _ _ _ _ _ _ _ _ _ _ _ _) _ _ _ _ _ _ _
theorem chain_of (N : Nat) (hU : zgp N) (hBin : ∀ k, k < N -> BinC k) (hC : ChainC N) : ChainC (N + 1) := by
 intro t l h1 h4 hl w bd h
 by_cases ht : t = 4
 ·subst ht; exact chain_top N hU l (by omega) w bd h
 ·exact chain_low N t h1 (by omega) hBin hC l (by omega) w bd h
structure All (n : Nat) : Prop where
 chain : ChainC n
 unary : zgp n
 prim : ziG n
 closed : zdg n
 agg : AggC n
 fn : FnC n
 bin : BinC n
theorem all_zero : All 0 := by
 refine ⟨fun t l h1 h4 hl => by omega, fun l hl => by omega, fun l hl => by omega, fun l hl => by omega, ?_, ?_, ?_⟩
 ·intro s l hl w bd h
  obtain rfl : l = [] := List.eq_nil_of_length_eq_zero (by omega)
  rw [show zbj 0 s.data.toList [] = none by rw [zbj]]
  exact ze9 s [] w bd h (.inr ⟨0, [], [], rfl, .inl rfl⟩)
 ·intro s l hl w bd h
  obtain rfl : l = [] := List.eq_nil_of_length_eq_zero (by omega)
  have := ziU 0 (fun l hl => by omega) s [] (by simp) w bd h
  rw [show fnGo 1 s.data.toList [] = none by rw [fnGo]; rfl] at this
  rw [show fnGo 0 s.data.toList [] = none by rw [fnGo]]
  exact this
 ·intro t x l h1 h3 hlv hl
  obtain rfl : l = [] := List.eq_nil_of_length_eq_zero (by omega)
  simp [levelT] at hlv; omega
theorem zhY : ∀ n, ∀ k, k <= n -> All k
 | 0, k, hk => by obtain rfl : k = 0 := by omega
                  exact all_zero
 | n + 1, k, hk => by
   by_cases h : k = n + 1
   ·subst h
    have ih := zhY n
    have hn := ih n (Nat.le_refl _)
    exact ⟨chain_of n hn.unary (fun j hj => (ih j (by omega)).bin) hn.chain, unary_of n hn.unary hn.prim, prim_of n hn.closed hn.agg hn.fn, closed_of n hn.chain, agg_of n hn.closed, ziU n hn.closed, bin_of n hn.chain⟩
   ·exact zhY n k (by omega)
theorem expr_any (n : Nat) (l : List Tq) (hl : 9 * l.length + 8 <= n + 1) (w : World) (bd : Nat) (h : Rd w bd l) :
 Calls Tryz.prog 44 #[.pointer (some ⟨bd, 0, none⟩)] w (Res w bd (chainGo n 1 l)) :=
 zhX n (zhY n n (Nat.le_refl _)).chain l hl w bd h
end Go.Proofs.YtbcemjhaecelnaaGreatDoor.Par
end
section
namespace Go.Proofs.YtbcemjhaecelnaaGreatDoor.Par
open Go.RowKit Go.Lib
open Go.Proofs.YtbcemjhaecelnaaGreatDoor.Sto
def zdI (w : World) (bd : Nat) (r : Option (Int × List Tq)) (e : Ending) (w' : World) : Prop := match r with
 | none => (∃ n, e = .returned (.tuple #[.int .i64 n, .bool false])) /\ (∃ l', Rd w' bd l') /\ w.grownBy w' (some bd)
 | some (n, m) => e = .returned (.tuple #[.int .i64 n, .bool true]) /\ Rd w' bd m /\ w.grownBy w' (some bd)
theorem zdI.shape {w w' : World} {bd : Nat} {r : Option (Int × List Tq)} {e : Ending} (h : zdI w bd r e w') : (∃ n, e = .returned (.tuple #[.int .i64 n, .bool r.isSome]) /\ ∀ p, r = some p -> n = p.1) /\ (∃ l', Rd w' bd l' /\ ∀ p, r = some p -> l' = p.2) /\ w.grownBy w' (some bd) := by
 cases r with
 | none => obtain ⟨⟨n, rfl⟩, ⟨l', h1⟩, h2⟩ := h; exact ⟨⟨n, rfl, fun p hp => by cases hp⟩, ⟨l', h1, fun p hp => by cases hp⟩, h2⟩
 | some p => obtain ⟨rfl, h1, h2⟩ := h; exact ⟨⟨p.1, rfl, fun q hq => by cases hq; rfl⟩, ⟨p.2, h1, fun q hq => by cases hq; rfl⟩, h2⟩
theorem zhk (bd : Nat) (l : List Tq) (s : ByteArray) (w : World) (h : Rd w bd l) :
 Calls Tryz.prog 46 #[.pointer (some ⟨bd, 0, none⟩), .string s] w (zdI w bd (zcC s.data.toList l)) := by
 obtain ⟨T, hT⟩ : ∃ T, zcC s.data.toList l = T := ⟨_, rfl⟩
 rw [hT]
 unfold zcC at hT
 cases h1 : isT 1 s.data.toList l with
 | false =>
   rw [if_neg (by rw [h1]; simp)] at hT
   have HT := zh hT
   have HS := zh (zdF bd l s h1 w h)
   have HR := zh h
   clear h h1 hT
   go_enter Tryz.func46, Tryz.ntmps46
   go_wp2_with fail
   refine HS.out.mono ?_
   rintro e w1 ⟨rfl, rfl⟩
   go_wp2
   go_ret2
   rw [<- HT.out]
   exact ⟨rfl, HR.out, grown_refl _ _⟩
 | true =>
   rw [if_pos h1] at hT
   have HS := zh (zcM bd l s h1 w h)
   generalize l.tail = l1 at HS hT
   clear h h1
   cases hk : isK 2 l1 with
   | false =>
     rw [show numP 2 l1 = none by
      cases l1 with
      | nil => rfl
      | cons x m => show (if x.1 = 2 then _ else none) = _; rw [if_neg]; simpa [isK] using hk] at hT
     have HT := zh (show none = T from hT)
     have HN := zh (fun W (hr : Rd W bd l1) => zdx bd l1 2 hk W hr)
     clear hT hk
     go_enter Tryz.func46, Tryz.ntmps46
     go_wp2_with fail
     refine HS.out.mono ?_
     rintro e w1 ⟨rfl, hr1, hg1⟩
     have HG1 := zh hg1
     have HNN := zh (HN.out w1 hr1)
     clear hr1 hg1
     go_wp2_with fail
     refine HNN.out.mono ?_
     rintro e w2 ⟨rfl, hr2, hg2⟩
     have HE := zh (And.intro hr2 (grown_trans HG1.out hg2))
     clear hr2 hg2
     go_wp2
     go_ret2
     rw [<- HT.out]
     exact ⟨⟨_, rfl⟩, ⟨_, HE.out.1⟩, HE.out.2⟩
   | true =>
     obtain ⟨x, m, rfl, hx⟩ := zaN hk
     rw [show numP 2 (x :: m) = some (valL x.2, m) by show (if x.1 = 2 then _ else none) = _; rw [if_pos hx]] at hT
     dsimp only at hT
     have HN := zh (fun W (hr : Rd W bd (x :: m)) => zcN bd x m 2 hx (.inl rfl) W hr)
     generalize valL x.2 = v at HN hT
     clear hk hx
     by_cases hv : v <= 2000
     ·rw [if_pos hv] at hT
      have HT := zh hT
      have i1 : (v : Int) <= 2000 := by omega
      clear hT hv
      go_enter Tryz.func46, Tryz.ntmps46
      go_wp2_with fail
      refine HS.out.mono ?_
      rintro e w1 ⟨rfl, hr1, hg1⟩
      have HG1 := zh hg1
      have HNN := zh (HN.out w1 hr1)
      clear hr1 hg1
      go_wp2_with fail
      refine HNN.out.mono ?_
      rintro e w2 ⟨rfl, hr2, hg2⟩
      have HE := zh (And.intro hr2 (grown_trans HG1.out hg2))
      clear hr2 hg2
      go_wp2
      go_ret2
      rw [<- HT.out]
      exact ⟨by simp, HE.out⟩
     ·rw [if_neg hv] at hT
      have HT := zh hT
      have i1 : ¬ (v : Int) <= 2000 := by omega
      clear hT hv
      go_enter Tryz.func46, Tryz.ntmps46
      go_wp2_with fail
      refine HS.out.mono ?_
      rintro e w1 ⟨rfl, hr1, hg1⟩
      have HG1 := zh hg1
      have HNN := zh (HN.out w1 hr1)
      clear hr1 hg1
      go_wp2_with fail
      refine HNN.out.mono ?_
      rintro e w2 ⟨rfl, hr2, hg2⟩
      have HE := zh (And.intro hr2 (grown_trans HG1.out hg2))
      clear hr2 hg2
      go_wp2
      go_ret2
      rw [<- HT.out]
      exact ⟨⟨v, by simp [i1]⟩, ⟨_, HE.out.1⟩, HE.out.2⟩
theorem order_any (bd : Nat) (l : List Tq) (w : World) (h : Rd w bd l) :
 Calls Tryz.prog 45 #[.pointer (some ⟨bd, 0, none⟩)] w (zdI w bd ((zbE l).map fun p => ((p.1 : Int), p.2))) := by
 obtain ⟨T, hT⟩ : ∃ T, zbE l = T := ⟨_, rfl⟩
 rw [hT]
 unfold zbE at hT
 cases h1 : isT 1 zdw l with
 | false =>
   rw [if_neg (by rw [h1]; simp)] at hT
   have HT := zh hT
   have HS := zh (zdF bd l ⟨#[111, 114, 100, 101, 114]⟩ h1 w h)
   have HR := zh h
   clear h h1 hT
   go_enter Tryz.func45, Tryz.ntmps45
   go_wp2_with fail
   refine HS.out.mono ?_
   rintro e w1 ⟨rfl, rfl⟩
   go_wp2
   go_ret2
   rw [<- HT.out]
   exact ⟨rfl, HR.out, grown_refl _ _⟩
 | true =>
   rw [if_pos h1] at hT
   have HS := zh (zcM bd l ⟨#[111, 114, 100, 101, 114]⟩ h1 w h)
   generalize l.tail = l1 at HS hT
   clear h h1
   cases h2 : isT 1 wAsc l1 with
   | true =>
     rw [if_pos h2] at hT
     have HT := zh hT
     have HA := zh (fun W (hr : Rd W bd l1) => zcM bd l1 ⟨#[97, 115, 99]⟩ h2 W hr)
     clear hT h2
     go_enter Tryz.func45, Tryz.ntmps45
     go_wp2_with fail
     refine HS.out.mono ?_
     rintro e w1 ⟨rfl, hr1, hg1⟩
     have HG1 := zh hg1
     have HNN := zh (HA.out w1 hr1)
     clear hr1 hg1
     go_wp2_with fail
     refine HNN.out.mono ?_
     rintro e w2 ⟨rfl, hr2, hg2⟩
     have HE := zh (And.intro hr2 (grown_trans HG1.out hg2))
     clear hr2 hg2
     go_wp2
     go_ret2
     rw [<- HT.out]
     exact ⟨rfl, HE.out⟩
   | false =>
     rw [if_neg (by rw [h2]; simp)] at hT
     have HA := zh (fun W (hr : Rd W bd l1) => (zdF bd l1 ⟨#[97, 115, 99]⟩ h2 W hr).mono (R' := fun e w' => e = .returned (.bool false) /\ Rd w' bd l1 /\ W.grownBy w' (some bd)) (fun e w' q => ⟨q.1, q.2 ▸ hr, q.2 ▸ grown_refl _ _⟩))
     cases h3 : isT 1 zde l1 with
     | true =>
       rw [if_pos h3] at hT
       have HT := zh hT
       have HD := zh (fun W (hr : Rd W bd l1) => zcM bd l1 ⟨#[100, 101, 115, 99]⟩ h3 W hr)
       clear hT h2 h3
       go_enter Tryz.func45, Tryz.ntmps45
       go_wp2_with fail
       refine HS.out.mono ?_
       rintro e w1 ⟨rfl, hr1, hg1⟩
       have HG1 := zh hg1
       have HNN := zh (HA.out w1 hr1)
       clear hr1 hg1
       go_wp2_with fail
       refine HNN.out.mono ?_
       rintro e w2 ⟨rfl, hr2, hg2⟩
       have HG2 := zh (grown_trans HG1.out hg2)
       have HDD := zh (HD.out w2 hr2)
       clear hr2 hg2
       go_wp2_with fail
       refine HDD.out.mono ?_
       rintro e w3 ⟨rfl, hr3, hg3⟩
       have HE := zh (And.intro hr3 (grown_trans HG2.out hg3))
       clear hr3 hg3
       go_wp2
       go_ret2
       rw [<- HT.out]
       exact ⟨rfl, HE.out⟩
     | false =>
       rw [if_neg (by rw [h3]; simp)] at hT
       have HT := zh hT
       have HD := zh (fun W (hr : Rd W bd l1) => (zdF bd l1 ⟨#[100, 101, 115, 99]⟩ h3 W hr).mono (R' := fun e w' => e = .returned (.bool false) /\ Rd w' bd l1 /\ W.grownBy w' (some bd)) (fun e w' q => ⟨q.1, q.2 ▸ hr, q.2 ▸ grown_refl _ _⟩))
       clear hT h2 h3
       go_enter Tryz.func45, Tryz.ntmps45
       go_wp2_with fail
       refine HS.out.mono ?_
       rintro e w1 ⟨rfl, hr1, hg1⟩
       have HG1 := zh hg1
       have HNN := zh (HA.out w1 hr1)
       clear hr1 hg1
       go_wp2_with fail
       refine HNN.out.mono ?_
       rintro e w2 ⟨rfl, hr2, hg2⟩
       have HG2 := zh (grown_trans HG1.out hg2)
       have HDD := zh (HD.out w2 hr2)
       clear hr2 hg2
       go_wp2_with fail
       refine HDD.out.mono ?_
       rintro e w3 ⟨rfl, hr3, hg3⟩
       have HE := zh (And.intro hr3 (grown_trans HG2.out hg3))
       clear hr3 hg3
       go_wp2
       go_ret2
       rw [<- HT.out]
       exact ⟨⟨_, rfl⟩, ⟨_, HE.out.1⟩, HE.out.2⟩
theorem zfj (x : Ex) : countE x = ((zaO x).map countE).sum + 1 := by
 cases x <;> simp [countE, zaO]
theorem sum_take {l : List Ex} {k : Nat} {y : Ex} (h : l[k]? = some y) : ((l.take (k + 1)).map countE).sum = ((l.take k).map countE).sum + countE y := by
 rw [List.take_add_one, h]; simp
theorem sum_le (l : List Ex) (k : Nat) : ((l.take k).map countE).sum <= (l.map countE).sum := by
 have e : l.map countE = (l.take k).map countE ++ (l.drop k).map countE := by rw [<- List.map_append, List.take_append_drop]
 rw [e, List.sum_append]; omega
theorem count_any : ∀ (n : Nat) (x : Ex), countE x <= n -> n <= 1000000 -> ∀ (P : Nat -> Prop) (w : World) (a b : ByteArray) (z m : Int) (o1 : Option Addr) (k1 c1 : Nat) (o2 : Option Addr) (k2 c2 : Nat) (o3 : Option Addr) (k3 c3 : Nat), Nod w P [.string a, .string b, .int .i64 z, .int .i64 m, .slice o1 k1 c1, .slice o2 k2 c2, .slice o3 k3 c3] x ->
 Calls Tryz.prog 20 #[.agg #[.string a, .string b, .int .i64 z, .int .i64 m, .slice o1 k1 c1, .slice o2 k2 c2, .slice o3 k3 c3]] w fun e w' => e = .returned (.int .i64 (countE x : Nat)) /\ Below w.heap.size w w'
 | 0, x, h, _ => by have := zfj x; omega
 | n + 1, x, hx, hn => by
   intro P w a b z m o1 k1 c1 o2 k2 c2 o3 k3 c3 hN
   have hIH := count_any n
   have hck := zfj x
   obtain ⟨cs, hcs⟩ : ∃ cs : List Value, [.string a, .string b, .int .i64 z, .int .i64 m, .slice o1 k1 c1, .slice o2 k2 c2, .slice o3 k3 c3] = cs := ⟨_, rfl⟩
   rw [hcs] at hN
   obtain ⟨h3, css, h4, s3, hk⟩ : (zaO x).length = k3 /\ ∃ css : List (List Value), css.length = k3 /\ za2 w P o3 7 css /\ ∀ (j : Nat) cs y, css[j]? = some cs -> (zaO x)[j]? = some y -> Nod w P cs y := by
    cases hN with
    | mk x n m o1' o2' o3' k1' c1' k2' c2' k3' c3' css hn hm h1 h2 h3 h4 s1 s2 s3 hk =>
      injection hcs with _ e; injection e with _ e; injection e with _ e; injection e with _ e; injection e with _ e; injection e with _ e; injection e with e _
      injection e with e1 e2 e3
      subst e1; subst e2
      exact ⟨h3, css, h4, s3, hk⟩
   clear hcs hN
   obtain ⟨C, hC⟩ : ∃ C, countE x = C := ⟨_, rfl⟩
   have HCE := zh hC
   rw [hC] at hx hck ⊢
   have HL := zh h3
   have HCL := zh h4
   have HS := zh s3
   have HK := zh hk
   have HIH := zh hIH
   have HCK := zh hck
   have hk3 : k3 <= 2 := by
    rw [<- h3]; cases x <;> simp [zaO]
   clear h3 h4 s3 hk hIH hck hC
   go_enter Tryz.func20, Tryz.ntmps20
   go_wp2
   go_loopw [3, 9] (fun v3 v9 wr => ∃ (k S0 : Nat), v9 = .int .i64 k /\ v3 = .int .i64 (S0 : Nat) /\ k <= k3 /\ Hid ((((zaO x).take k).map countE).sum + 1 = S0) /\ Hid (Below w.heap.size w wr)) (fun _ v9 _ => k3 - (Go.RowKit.intOf v9).toNat)
   case atStart => exact ⟨0, 1, rfl, rfl, Nat.zero_le _, rfl, (Below.refl _ _).alloc (Nat.le_refl _) _⟩
   case round =>
    obtain ⟨k, S0, rfl, rfl, hkk, HS0, HB⟩ := hrel
    by_cases hlt : k < k3
    ·have j1 : (k : Int) < k3 := by omega
     obtain ⟨y, hy⟩ : ∃ y, (zaO x)[k]? = some y := ⟨_, List.getElem?_eq_getElem (by rw [HL.out]; exact hlt)⟩
     obtain ⟨cs, hcs⟩ : ∃ cs, css[k]? = some cs := ⟨_, List.getElem?_eq_getElem (by rw [HCL.out]; exact hlt)⟩
     have hnk := HK.out k cs y hcs hy
     obtain ⟨a2, b2, z2, m2, p1, j1', d1, p2, j2, d2, p3, j3, d3, rfl⟩ := hnk.raw
     obtain ⟨bb, off, rfl, hP, hbl, hcell⟩ := HS.out.resolve_left (fun h => by rw [h] at hcs; simp at hcs)
     have hc := fun i v hv => (HB.out.cell (p := ⟨bb, off + k * 7 + i, none⟩) hbl).trans (hcell k _ hcs i v hv)
     have q0 := hc 0 _ rfl
     have q1 := hc 1 _ rfl
     have q2 := hc 2 _ rfl
     have q3 := hc 3 _ rfl
     have q4 := hc 4 _ rfl
     have q5 := hc 5 _ rfl
     have q6 := hc 6 _ rfl
     simp only [Nat.add_zero] at q0
     have hsum := sum_take hy
     have hyx : countE y <= n := by have := zhQ (List.mem_of_getElem? hy); have := HCE.out; omega
     have hsl := sum_le (zaO x) (k + 1)
     have hckk := HCK.out
     have HC1 := zh (HIH.out y hyx (by omega) P (wr.alloc (Obj.cells #[.string a2, .string b2, .int .i64 z2, .int .i64 m2, .slice p1 j1' d1, .slice p2 j2 d2, .slice p3 j3 d3] 27)) a2 b2 z2 m2 p1 j1' d1 p2 j2 d2 p3 j3 d3 ((hnk.under HB.out).under ((Below.refl _ _).alloc (Nat.le_refl _) _)))
     obtain ⟨cy, hcy⟩ : ∃ c, countE y = c := ⟨_, rfl⟩
     rw [hcy] at HC1 hsum
     have hs0 := HS0.out
     have hbnd : S0 + cy <= 1000000 := by omega
     have HS1 := zh (show (((zaO x).take (k + 1)).map countE).sum + 1 = S0 + cy by omega)
     have HBW := HB.out.size
     clear hcell hc hcs hy hnk hyx hsum hsl hckk hcy hs0
     go_wp2_with fail
     refine HC1.out.mono ?_
     rintro e w2 ⟨rfl, b2'⟩
     have HB2 := zh ((HB.out.alloc HBW (Obj.cells #[.string a2, .string b2, .int .i64 z2, .int .i64 m2, .slice p1 j1' d1, .slice p2 j2 d2, .slice p3 j3 d3] 27)).trans (b2'.mono (by simp; omega)))
     clear b2'
     go_wp2
     go_roundw
     case rel => exact ⟨k + 1, S0 + cy, by go_num, by go_num, by omega, HS1, HB2⟩
     case measure => simp [Go.RowKit.intOf]; omega
    ·have j1 : ¬ (k : Int) < k3 := by omega
     have HE := zh (show S0 = C by rw [<- HS0.out, List.take_of_length_le (by rw [HL.out]; omega)]; exact HCK.out.symm)
     go_wp2
     go_ret
     exact ⟨by rw [HE.out]; rfl, HB.out⟩
end Go.Proofs.YtbcemjhaecelnaaGreatDoor.Par
end
end
