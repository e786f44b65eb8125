/- A walk: the document's own way to the number at a place. -/
import Derived.Test.YtooibjanlmlidaaTb
import Derived.Deep.RegionLaw
import Derived.Deep.AppendLies
namespace Go.Proofs.Ytooibjanlmlidaa
open Go.RowKit

/-- An append onto a row of the call's own, in a region that draws its order. -/
theorem own_step {P : Program} {ops : Array Oper} {o : Oper} {a : Act} {w : World} {K : Act → World → Prop} {Q : Exit → Act → World → Prop} {E : Prop} (hg : o.guard = none) (s x : Operand) (t : TypeId)
    (ho : o.op = .call { callee := .builtin .append, args := #[s, x], argTypes := #[t, t] })
    (base : Nat) (e : TypeId) (i : TypeInfo) (z : Value) (size bytes : Nat) (ht : P.underlying t = some (.slice e)) (hi : P.info? e = some i) (hz : i.zero = some z)
    (hsize : i.size = size) (hby : i.bytes = bytes) (hzs : z.cells.size = size) (hsz : 0 < size)
    (v : Value) (n : Nat) (xs : List Value) (hs : a.eval s = v) (hown : w.ownsRow base e size v n xs)
    (ad : Addr) (m c : Nat) (news : List Value) (hx : a.eval x = .slice (some ad) m c) (hl : news.length = m * size) (hnews : ∀ j u, news[j]? = some u → w.cell? (ad.add j) = some u) (h1 : ∀ u ∈ news, u.oneCell' = true)
    (h63 : n + m ≤ maxLen) (hbytes : (n + m) * bytes ≤ 140737488355328) (hbase : base ≤ w.heap.size)
    (h : ∀ v' w', w'.ownsRow base e size v' (n + m) (xs ++ news) → w.grownBy w' v.ownBlock → K (a.put o.dst v') w') :
    if Region.wanted o (yielded ops a.tmps) = true then Oper.wp P o a w K Q else E := by
  rw [if_pos (by simp [Region.wanted, hg])]
  exact wp_append_own w s x t ho base e i z size bytes ht hi hz hsize hby hzs hsz v n xs hs hown ad m c news hx hl hnews h1 h63 hbytes hbase fun v' w' h2 h3 _ => h v' w' h2 h3

theorem own_pos {B e n : Nat} {v : Value} {xs : List Value} {w : World} (h : w.ownsRow B e 1 v n xs) (h1 : 1 ≤ n) : ∃ g cap, v = .slice (some ⟨g, 0, none⟩) n cap ∧ (n : Int) ≤ cap ∧ g < w.heap.size ∧ n ≤ cap ∧ cap ≤ maxLen := by
  rcases h.2 with ⟨_, h0⟩ | ⟨g, cap, cur, rfl, hg, hh, hn, hcap, hsz, htake⟩
  · omega
  · exact ⟨g, cap, rfl, by omega, (Array.getElem?_eq_some_iff.1 hh).1, hn, hcap⟩
theorem drewN_drewN (w : World) (a b : Nat) : (w.drewN a).drewN b = w.drewN (a + b) := by simp [World.drewN, Nat.add_assoc]
/-- A number put where it belongs. -/
def insF (S : List Int) (x : Int) (k : Nat) : List Int := S.take k ++ x :: S.drop k
theorem insF_perm (S : List Int) (x : Int) (k : Nat) : (insF S x k).Perm (S ++ [x]) := by
  unfold insF
  have h1 : (S.take k ++ x :: S.drop k).Perm (x :: (S.take k ++ S.drop k)) := List.perm_middle
  rw [List.take_append_drop] at h1
  exact h1.trans (List.perm_append_comm (l₁ := [x]) (l₂ := S))
theorem insF_sorted {S : List Int} {x : Int} {k : Nat} (hs : S.Pairwise (fun a b => a ≤ b)) (h1 : ∀ j, j < k → S.getD j 0 ≤ x) (h2 : k < S.length → x < S.getD k 0) : (insF S x k).Pairwise (fun a b => a ≤ b) := by
  unfold insF
  rw [List.pairwise_append]
  have hdrop : ∀ y ∈ S.drop k, x ≤ y := fun y hy => by
    obtain ⟨j, hj, e⟩ := List.getElem_of_mem hy
    rw [List.getElem_drop] at e
    have hlt : k + j < S.length := by rw [List.length_drop] at hj; omega
    have h3 := h2 (by omega)
    have h4 := sorted_le hs (show k ≤ k + j by omega) hlt
    have h5 : S.getD (k + j) 0 = y := by simp [List.getD, List.getElem?_eq_getElem hlt, e]
    omega
  have htake : ∀ y ∈ S.take k, y ≤ x := fun y hy => by
    obtain ⟨j, hj, e⟩ := List.getElem_of_mem hy
    have hj2 : j < k ∧ j < S.length := by rw [List.length_take] at hj; omega
    have h5 : S.getD j 0 = y := by rw [List.getElem_take] at e; simp [List.getD, List.getElem?_eq_getElem hj2.2, e]
    have := h1 j hj2.1
    omega
  refine ⟨hs.sublist (List.take_sublist _ _), List.pairwise_cons.2 ⟨hdrop, hs.sublist (List.drop_sublist _ _)⟩, fun a ha b hb => ?_⟩
  rcases List.mem_cons.1 hb with rfl | hb
  · exact htake a ha
  · have := htake a ha; have := hdrop b hb; omega
theorem insF_len (S : List Int) (x : Int) (k : Nat) : (insF S x k).length = S.length + 1 := by
  have := (insF_perm S x k).length_eq; simpa using this

theorem ins_step {S zs : List Int} {x : Int} {i : Nat} (h : S.length = i ∧ S.Pairwise (fun a b => a ≤ b) ∧ S.Perm (zs.take i)) (k : Nat) (h1 : ∀ j, j < k → S.getD j 0 ≤ x) (h2 : k < S.length → x < S.getD k 0) (ht : zs.take (i + 1) = zs.take i ++ [x]) :
    (insF S x k).length = i + 1 ∧ (insF S x k).Pairwise (fun a b => a ≤ b) ∧ (insF S x k).Perm (zs.take (i + 1)) :=
  ⟨by rw [insF_len, h.1], insF_sorted h.2.1 h1 h2, by rw [ht]; exact (insF_perm S x k).trans (h.2.2.append_right [x])⟩
theorem below_own {w w' : World} (h : w.grownBy w' (Value.slice none 0 0).ownBlock) : Below w.heap.size w w' := ⟨h.os, h.tape, h.output, h.size, fun j hj => h.block j hj (by simp [Value.ownBlock])⟩
theorem cell_kept {wq wA : World} {x : Int} (h : (wq.drew.alloc (.cells #[.int .i64 x] 3)).grownBy wA (Value.slice none 0 0).ownBlock) : ∀ j u, [Value.int .i64 x][j]? = some u → wA.cell? ((⟨wq.heap.size, 0, none⟩ : Addr).add j) = some u := by
  intro j u hj
  have h1 := cell_1 wq.drew (.int .i64 x) 3 j u hj
  refine ((below_own h).cell (p := (⟨wq.heap.size, 0, none⟩ : Addr).add j) ?_).trans h1
  unfold Addr.add; split <;> simp
theorem own_ins {w0 : Nat} {wq wD : World} {S : List Int} {i : Nat} {v : Value} (hB : w0 ≤ wq.heap.size) (_hS : S.length = i) (k : Nat) (x : Int) (hk : k ≤ i)
    (h : wD.ownsRow wq.heap.size 3 1 v (0 + k + 1 + (i - k)) ([] ++ (S.take k).map (Value.int .i64) ++ [.int .i64 x] ++ (S.drop k).map (Value.int .i64))) : wD.ownsRow w0 3 1 v (i + 1) ((insF S x k).map (Value.int .i64)) := by
  have e1 : 0 + k + 1 + (i - k) = i + 1 := by omega
  have e2 : [] ++ (S.take k).map (Value.int .i64) ++ [.int .i64 x] ++ (S.drop k).map (Value.int .i64) = (insF S x k).map (Value.int .i64) := by unfold insF; simp
  rw [e1, e2] at h
  refine ⟨h.1, ?_⟩
  rcases h.2 with h2 | ⟨g, cap, cur, a, c, d⟩
  · exact .inl h2
  · exact .inr ⟨g, cap, cur, a, Nat.le_trans hB c, d⟩
theorem own_base {w0 : Nat} {wq wD : World} {v : Value} {n : Nat} {xs : List Value} (hB : w0 ≤ wq.heap.size) (h : wD.ownsRow wq.heap.size 3 1 v n xs) : wD.ownsRow w0 3 1 v n xs := by
  refine ⟨h.1, ?_⟩
  rcases h.2 with h2 | ⟨g, cap, cur, a, c, d⟩
  · exact .inl h2
  · exact .inr ⟨g, cap, cur, a, Nat.le_trans hB c, d⟩
set_option maxHeartbeats 8000000 in
set_option maxRecDepth 100000 in
theorem rrank_all (p : Int) (o : Option Addr) (cap : Nat) (zs : List Int) (w : World) (hm : zs.length ≤ 200) (hS : SeesI w o zs) (hne : zs ≠ []) (hp0 : 0 ≤ p) (hp1 : p ≤ 100) :
    Calls Try.prog 23 #[.int .i64 p, .slice o zs.length cap] w fun e w' => e = .returned (.tuple #[.int .i64 (rankF p zs).1, .bool (rankF p zs).2]) ∧ Below w.heap.size w w' := by
  obtain ⟨i0, hi, hz0, hz1, hz2⟩ := info_parts info3
  obtain ⟨n, hn⟩ : ∃ n, zs.length = n := ⟨_, rfl⟩
  have HN := Lib.hid hn
  have hn0 : n ≠ 0 := by rw [← hn]; exact fun h => hne (List.length_eq_zero_iff.1 h)
  have t0 : ((n : Int) == 0) = false := beq_eq_false_iff_ne.2 (by omega)
  have t1 : decide (p < 0) = false := by simpa using hp0
  have t2 : decide (100 < p) = false := by simpa using hp1
  have HS := Lib.hid hS
  obtain ⟨b, off, rfl, _, _⟩ := hS.resolve_left hne
  have HNE := Lib.hid hne
  rw [hn] at hm ⊢
  obtain ⟨R, hR⟩ : ∃ R, rankF p zs = R := ⟨_, rfl⟩
  rw [hR]
  have HR := Lib.hid hR
  clear hn hS hne hR
  go_enter Try.func23, Try.ntmps23
  go_wp2
  go_loopw [6, 7] (fun v6 v7 wr => ∃ (i : Nat) (S : List Int), v7 = .int .i64 i ∧ i ≤ n ∧ (i = 0 → v6 = .slice none 0 0) ∧ Hid (wr.ownsRow w.heap.size 3 1 v6 i (S.map (Value.int .i64))) ∧ Hid (S.length = i ∧ S.Pairwise (fun a b => a ≤ b) ∧ S.Perm (zs.take i)) ∧ Hid (Below w.heap.size w wr)) (fun _ v7 _ => n - (intOf v7).toNat)
  case atStart => exact ⟨0, [], rfl, Nat.zero_le _, fun _ => rfl, Lib.hid (World.ownsRow_nil _ _ _ _), Lib.hid ⟨rfl, List.Pairwise.nil, List.Perm.refl _⟩, Lib.hid (Below.refl _ _)⟩
  case round =>
    obtain ⟨i, S, rfl, hin, hnil, HO, HSS, HB⟩ := hrel
    by_cases hlt : i < n
    · have j1 : (i : Int) < n := by omega
      have j0 : (0 : Int) ≤ i := by omega
      obtain ⟨x, hx⟩ := get_lt HN.out hlt
      have HC := Lib.hid (fun W (h : Below w.heap.size w W) => (show W.cell? ⟨b, off + i, none⟩ = some (.int .i64 x) by
        obtain ⟨b', off', e, hc⟩ := (HS.out.below h).at hx
        cases e; exact hc))
      have HT := Lib.hid (take_at hx)
      clear hx
      by_cases hi0 : i = 0
      · subst hi0
        obtain rfl := hnil rfl
        obtain ⟨wo, rfl⟩ : ∃ wo : World, wo = wr := ⟨_, rfl⟩
        go_wp2_with fail
        go_loopw [8] (fun v8 wi => v8 = .int .i64 0 ∧ wi = wo) (fun _ _ => 0)
        case atStart => exact ⟨rfl, rfl⟩
        case round =>
          obtain ⟨rfl, rfl⟩ := hrel
          have c2 : wr.cell? ⟨b, off, none⟩ = some (.int .i64 x) := HC.out _ HB.out
          go_wp2_with fail
          go_quiet (fail)
          go_wp2
          clear c2
          obtain ⟨wq, hwq⟩ : ∃ wq, wr.drewN nq = wq := ⟨_, rfl⟩
          have HB1 := Lib.hid (show Below w.heap.size w wq by rw [← hwq]; exact HB.out.trans ((drewN_below wr nq).mono HB.out.size))
          have CX := Lib.hid (fun W (h : Below wq.heap.size wq W) => (show W.cell? ⟨b, off, none⟩ = some (.int .i64 x) from HC.out W (HB1.out.trans (h.mono HB1.out.size))))
          have B0 := Lib.hid (show Below wq.heap.size wq wq.drew from (Below.refl _ _).drew)
          have B1 := Lib.hid (show Below wq.heap.size wq (wq.drew.alloc (.cells #[.int .i64 x] 3)) from B0.out.alloc (Nat.le_refl _) _)
          have cX := CX.out wq.drew B0.out
          have cX1 := CX.out (wq.drew.alloc (.cells #[.int .i64 x] 3)) B1.out
          rw [hwq]
          clear hwq
          go_region_held3 (fun w' => w'.cell? ⟨b, off, none⟩ = some (.int .i64 x)) (first | exact cX | exact cX1 | exact cC) (first
            | (refine own_step rfl (.tmp 46) (.tmp 51) 29 rfl wq.heap.size 3 i0 (.int .i64 0) 1 8 Try.underlying29 hi hz0 hz1 hz2 rfl (by decide) (.slice none 0 0) 0 [] rfl (World.ownsRow_nil _ _ _ _) ⟨wq.heap.size, 0, none⟩ 1 1 [.int .i64 x] rfl rfl (cell_1 wq.drew _ _) (one_int [x]) (by unfold maxLen; omega) (by omega) B1.out.size ?_
               intro v2 wC hoC hgC
               obtain ⟨g2, c2, rfl, q1, q2, q3, q4⟩ := own_pos hoC (by omega)
               have HOC := Lib.hid hoC
               have BC := Lib.hid (B1.out.trans ((below_own hgC).mono B1.out.size))
               have cC := CX.out wC BC.out
               clear hoC hgC))
          all_goals
            go_wp2
            go_roundw
            case rel => exact ⟨1, [x], by go_num, by omega, fun h => by omega, Lib.hid (own_base HB1.out.size HOC.out), Lib.hid ⟨rfl, List.pairwise_singleton _ _, by rw [HT.out]; simp⟩, Lib.hid (HB1.out.trans (BC.out.mono HB1.out.size))⟩
            case measure => simp [intOf]; omega
      · obtain ⟨g, sc, rfl, q1, q2, q3, q4⟩ := own_pos HO.out (by omega)
        have hg : w.heap.size ≤ g := (HO.out.lt g rfl).1
        clear hnil
        obtain ⟨wo, rfl⟩ : ∃ wo : World, wo = wr := ⟨_, rfl⟩
        go_wp2_with fail
        go_loopw [8] (fun v8 wi => ∃ k : Nat, v8 = .int .i64 k ∧ k ≤ i ∧ Hid (∀ j, j < k → S.getD j 0 ≤ x) ∧ Hid (∃ m, wi = wo.drewN m)) (fun v8 _ => i - (intOf v8).toNat)
        case atStart => exact ⟨0, rfl, Nat.zero_le _, Lib.hid (fun j hj => absurd hj (Nat.not_lt_zero _)), Lib.hid ⟨0, rfl⟩⟩
        case round =>
          obtain ⟨k, rfl, hk, HLE, HW⟩ := hrel
          have k0 : (0 : Int) ≤ k := by omega
          have HWB := Lib.hid (show Below wo.heap.size wo wr by obtain ⟨m, rfl⟩ := HW.out; exact drewN_below wo m)
          have c2 : wr.cell? ⟨b, off + i, none⟩ = some (.int .i64 x) := HC.out _ (HB.out.trans (HWB.out.mono HB.out.size))
          by_cases hki : k < i
          · have j2 : (k : Int) < i := by omega
            have c1 : wr.cell? ⟨g, k, none⟩ = some (.int .i64 (S.getD k 0)) := by
              rw [HWB.out.cell (p := ⟨g, k, none⟩) q2, HO.out.cellAt k (by omega)]
              simp [List.getD, HSS.out.1, hki]
            obtain ⟨y, hy⟩ : ∃ y, S.getD k 0 = y := ⟨_, rfl⟩
            rw [hy] at c1
            have HY := Lib.hid hy
            clear hy
            by_cases hyx : y ≤ x
            · have HL2 := Lib.hid (show ∀ j, j < k + 1 → S.getD j 0 ≤ x from fun j hj => by
                by_cases h : j < k
                · exact HLE.out j h
                · obtain rfl : j = k := by omega
                  rw [HY.out]; exact hyx)
              go_wp2_with fail
              go_quiet (fail)
              go_wp2
              go_roundw
              case rel => exact ⟨k + 1, by go_num, by omega, HL2, Lib.hid (by obtain ⟨m, rfl⟩ := HW.out; exact ⟨_, drewN_drewN _ _ _⟩)⟩
              case measure => simp [intOf]; omega
            · have hyx2 : x < y := by omega
              go_wp2_with fail
              go_quiet (fail)
              go_wp2
              have HEX := Lib.hid (show k < S.length → x < S.getD k 0 from fun _ => by rw [HY.out]; exact hyx2)
              clear c1 c2
              obtain ⟨wq, hwq⟩ : ∃ wq, wr.drewN nq = wq := ⟨_, rfl⟩
              have HQ := Lib.hid (show Below wo.heap.size wo wq by rw [← hwq]; exact HWB.out.trans ((drewN_below wr nq).mono HWB.out.size))
              have HB1 := Lib.hid (HB.out.trans (HQ.out.mono HB.out.size))
              have HB0 := Lib.hid HB1.out.size
              have CX := Lib.hid (fun W (h : Below wq.heap.size wq W) => HC.out W (HB1.out.trans (h.mono HB1.out.size)))
              have B0 := Lib.hid (show Below wq.heap.size wq wq.drew from (Below.refl _ _).drew)
              have B1 := Lib.hid (show Below wq.heap.size wq (wq.drew.alloc (.cells #[.int .i64 x] 3)) from B0.out.alloc (Nat.le_refl _) _)
              have L1 := Lib.hid (show ((S.take k).map (Value.int .i64)).length = k * 1 by rw [List.length_map, List.length_take, HSS.out.1]; omega)
              have L3 := Lib.hid (show ((S.drop k).map (Value.int .i64)).length = (i - k) * 1 by rw [List.length_map, List.length_drop, HSS.out.1]; omega)
              have CS := Lib.hid (fun W (h : Below wq.heap.size wq W) (j : Nat) (y : Int) (hy : S[j]? = some y) => (show W.cell? ⟨g, j, none⟩ = some (.int .i64 y) by
                have hj : j < i := by have := (List.getElem?_eq_some_iff.1 hy).1; rw [HSS.out.1] at this; exact this
                rw [(HQ.out.trans (h.mono HQ.out.size)).cell (p := ⟨g, j, none⟩) q2, HO.out.cellAt j (by omega), List.getElem?_map, hy]; rfl))
              have SRC1 := Lib.hid (fun W (h : Below wq.heap.size wq W) => sees_src (w := W) (b := g) (off := 0) (zs := S.take k) (fun j y hy => by
                rw [Nat.zero_add]; refine CS.out W h j y ?_
                rw [List.getElem?_take] at hy; split at hy; exact hy; simp at hy))
              have HSE := Lib.hid (ins_step HSS.out k HLE.out HEX.out HT.out)
              have cX := CX.out wq.drew B0.out
              have cX1 := CX.out (wq.drew.alloc (.cells #[.int .i64 x] 3)) B1.out
              rw [hwq]
              clear hwq
              have k1 : (k : Int) ≤ sc := by omega
              have k2 : (k : Int) ≤ i := by omega
              have hcap : ¬ sc = k := by omega
              have SRC3 := Lib.hid (fun W (h : Below wq.heap.size wq W) => sees_src (w := W) (b := g) (off := k) (zs := S.drop k) (fun j y hy => by
                rw [List.getElem?_drop] at hy; exact CS.out W h _ y hy))
              go_region_held3 (fun w' => w'.cell? ⟨b, off + i, none⟩ = some (.int .i64 x)) (first | exact cX | exact cX1 | exact cA | exact cA1 | exact cC | exact cD) (first
                | (refine own_step rfl (.const (.slice none 0 0)) (.tmp 45) 29 rfl wq.heap.size 3 i0 (.int .i64 0) 1 8 Try.underlying29 hi hz0 hz1 hz2 rfl (by decide) (.slice none 0 0) 0 [] rfl (World.ownsRow_nil _ _ _ _) ⟨g, 0, none⟩ k sc ((S.take k).map (Value.int .i64)) rfl L1.out (fun j u hj => SRC1.out wq.drew B0.out j u hj) (one_int _) (by unfold maxLen; omega) (by omega) (Nat.le_refl _) ?_
                   intro v1 wA hoA hgA
                   have HOA := Lib.hid hoA
                   have BA := Lib.hid (B0.out.trans ((below_own hgA).mono (Nat.le_refl _)))
                   have cA := CX.out wA BA.out
                   have cA1 := CX.out (wA.alloc (.cells #[.int .i64 x] 3)) (BA.out.alloc BA.out.size _)
                   clear hoA hgA)
                | (refine own_step rfl (.tmp 46) (.tmp 51) 29 rfl wq.heap.size 3 i0 (.int .i64 0) 1 8 Try.underlying29 hi hz0 hz1 hz2 rfl (by decide) v1 _ _ rfl (HOA.out.alloc _) ⟨wA.heap.size, 0, none⟩ 1 1 [.int .i64 x] rfl rfl (cell_1 _ _ _) (one_int [x]) (by unfold maxLen; omega) (by omega) (Nat.le_trans BA.out.size (by simp)) ?_
                   intro v2 wC hoC hgC
                   have HOC := Lib.hid hoC
                   have BC := Lib.hid (Below.grown (BA.out.alloc BA.out.size _) hgC (Nat.le_trans BA.out.size (by simp)) (fun j hj => (HOA.out.lt j hj).1) : Below wq.heap.size wq wC)
                   have cC := CX.out wC BC.out
                   clear hoC hgC)
                | (refine own_step rfl (.const (.slice none 0 0)) (.tmp 45) 29 rfl wq.heap.size 3 i0 (.int .i64 0) 1 8 Try.underlying29 hi hz0 hz1 hz2 rfl (by decide) (.slice none 0 0) 0 [] rfl (World.ownsRow_nil _ _ _ _) ⟨g, 0, none⟩ k sc ((S.take k).map (Value.int .i64)) rfl L1.out (fun j u hj => SRC1.out (wq.drew.alloc (.cells #[.int .i64 x] 3)) B1.out j u hj) (one_int _) (by unfold maxLen; omega) (by omega) B1.out.size ?_
                   intro v1 wA hoA hgA
                   have HOA := Lib.hid hoA
                   have BA := Lib.hid (B1.out.trans ((below_own hgA).mono B1.out.size))
                   have HX := Lib.hid (cell_kept hgA)
                   have cA := CX.out wA BA.out
                   clear hoA hgA)
                | (refine own_step rfl (.tmp 46) (.tmp 51) 29 rfl wq.heap.size 3 i0 (.int .i64 0) 1 8 Try.underlying29 hi hz0 hz1 hz2 rfl (by decide) v1 _ _ rfl HOA.out ⟨wq.heap.size, 0, none⟩ 1 1 [.int .i64 x] rfl rfl HX.out (one_int [x]) (by unfold maxLen; omega) (by omega) BA.out.size ?_
                   intro v2 wC hoC hgC
                   have HOC := Lib.hid hoC
                   have BC := Lib.hid (Below.grown BA.out hgC BA.out.size (fun j hj => (HOA.out.lt j hj).1) : Below wq.heap.size wq wC)
                   have cC := CX.out wC BC.out
                   clear hoC hgC)
                | (refine own_step rfl (.tmp 52) (.tmp 55) 29 rfl wq.heap.size 3 i0 (.int .i64 0) 1 8 Try.underlying29 hi hz0 hz1 hz2 rfl (by decide) v2 _ _ rfl HOC.out ⟨g, k, none⟩ (i - k) (sc - k) ((S.drop k).map (Value.int .i64)) rfl L3.out (fun j u hj => SRC3.out wC BC.out j u hj) (one_int _) (by unfold maxLen; omega) (by omega) BC.out.size ?_
                   intro v3 wD hoD hgD
                   have HOD := Lib.hid hoD
                   have BD := Lib.hid (Below.grown BC.out hgD BC.out.size (fun j hj => (HOC.out.lt j hj).1) : Below wq.heap.size wq wD)
                   have cD := CX.out wD BD.out
                   clear hoD hgD))
              all_goals
                have HOE := Lib.hid (own_ins HB0.out HSS.out.1 k x (by omega) HOD.out)
                have HBE := Lib.hid (HB1.out.trans (BD.out.mono HB1.out.size))
                go_wp2
                go_roundw
                case rel => exact ⟨i + 1, insF S x k, by go_num, by omega, fun h => by omega, HOE, HSE, HBE⟩
                case measure => simp [intOf]; omega
          · obtain rfl : k = i := by omega
            have j2 : ¬ (k : Int) < k := by omega
            go_wp2_with fail
            go_quiet (fail)
            go_wp2
            have HEX := Lib.hid (show k < S.length → x < S.getD k 0 from fun h => by rw [HSS.out.1] at h; omega)
            clear c2
            obtain ⟨wq, hwq⟩ : ∃ wq, wr.drewN nq = wq := ⟨_, rfl⟩
            have HQ := Lib.hid (show Below wo.heap.size wo wq by rw [← hwq]; exact HWB.out.trans ((drewN_below wr nq).mono HWB.out.size))
            have HB1 := Lib.hid (HB.out.trans (HQ.out.mono HB.out.size))
            have HB0 := Lib.hid HB1.out.size
            have CX := Lib.hid (fun W (h : Below wq.heap.size wq W) => HC.out W (HB1.out.trans (h.mono HB1.out.size)))
            have B0 := Lib.hid (show Below wq.heap.size wq wq.drew from (Below.refl _ _).drew)
            have B1 := Lib.hid (show Below wq.heap.size wq (wq.drew.alloc (.cells #[.int .i64 x] 3)) from B0.out.alloc (Nat.le_refl _) _)
            have L1 := Lib.hid (show ((S.take k).map (Value.int .i64)).length = k * 1 by rw [List.length_map, List.length_take, HSS.out.1]; omega)
            have L3 := Lib.hid (show ((S.drop k).map (Value.int .i64)).length = 0 * 1 by rw [List.length_map, List.length_drop, HSS.out.1]; omega)
            have CS := Lib.hid (fun W (h : Below wq.heap.size wq W) (j : Nat) (y : Int) (hy : S[j]? = some y) => (show W.cell? ⟨g, j, none⟩ = some (.int .i64 y) by
              have hj : j < k := by have := (List.getElem?_eq_some_iff.1 hy).1; rw [HSS.out.1] at this; exact this
              rw [(HQ.out.trans (h.mono HQ.out.size)).cell (p := ⟨g, j, none⟩) q2, HO.out.cellAt j (by omega), List.getElem?_map, hy]; rfl))
            have SRC1 := Lib.hid (fun W (h : Below wq.heap.size wq W) => sees_src (w := W) (b := g) (off := 0) (zs := S.take k) (fun j y hy => by
              rw [Nat.zero_add]; refine CS.out W h j y ?_
              rw [List.getElem?_take] at hy; split at hy; exact hy; simp at hy))
            have HSE := Lib.hid (ins_step HSS.out k HLE.out HEX.out HT.out)
            have cX := CX.out wq.drew B0.out
            have cX1 := CX.out (wq.drew.alloc (.cells #[.int .i64 x] 3)) B1.out
            rw [hwq]
            clear hwq
            have k1 : (k : Int) ≤ sc := by omega
            have k2 : (k : Int) ≤ k := by omega
            by_cases hcap : sc = k
            · have SRC3 := Lib.hid (fun W (_ : Below wq.heap.size wq W) => (show ∀ j u, ((S.drop k).map (Value.int .i64))[j]? = some u → W.cell? ((⟨g, 0, none⟩ : Addr).add j) = some u from fun j u hj => by
                rw [List.drop_eq_nil_of_le (by rw [HSS.out.1]; omega)] at hj; simp at hj))
              obtain rfl : k = sc := hcap.symm
              go_region_held3 (fun w' => w'.cell? ⟨b, off + k, none⟩ = some (.int .i64 x)) (first | exact cX | exact cX1 | exact cA | exact cA1 | exact cC | exact cD) (first
                | (refine own_step rfl (.const (.slice none 0 0)) (.tmp 45) 29 rfl wq.heap.size 3 i0 (.int .i64 0) 1 8 Try.underlying29 hi hz0 hz1 hz2 rfl (by decide) (.slice none 0 0) 0 [] rfl (World.ownsRow_nil _ _ _ _) ⟨g, 0, none⟩ k k ((S.take k).map (Value.int .i64)) rfl L1.out (fun j u hj => SRC1.out wq.drew B0.out j u hj) (one_int _) (by unfold maxLen; omega) (by omega) (Nat.le_refl _) ?_
                   intro v1 wA hoA hgA
                   have HOA := Lib.hid hoA
                   have BA := Lib.hid (B0.out.trans ((below_own hgA).mono (Nat.le_refl _)))
                   have cA := CX.out wA BA.out
                   have cA1 := CX.out (wA.alloc (.cells #[.int .i64 x] 3)) (BA.out.alloc BA.out.size _)
                   clear hoA hgA)
                | (refine own_step rfl (.tmp 46) (.tmp 51) 29 rfl wq.heap.size 3 i0 (.int .i64 0) 1 8 Try.underlying29 hi hz0 hz1 hz2 rfl (by decide) v1 _ _ rfl (HOA.out.alloc _) ⟨wA.heap.size, 0, none⟩ 1 1 [.int .i64 x] rfl rfl (cell_1 _ _ _) (one_int [x]) (by unfold maxLen; omega) (by omega) (Nat.le_trans BA.out.size (by simp)) ?_
                   intro v2 wC hoC hgC
                   have HOC := Lib.hid hoC
                   have BC := Lib.hid (Below.grown (BA.out.alloc BA.out.size _) hgC (Nat.le_trans BA.out.size (by simp)) (fun j hj => (HOA.out.lt j hj).1) : Below wq.heap.size wq wC)
                   have cC := CX.out wC BC.out
                   clear hoC hgC)
                | (refine own_step rfl (.const (.slice none 0 0)) (.tmp 45) 29 rfl wq.heap.size 3 i0 (.int .i64 0) 1 8 Try.underlying29 hi hz0 hz1 hz2 rfl (by decide) (.slice none 0 0) 0 [] rfl (World.ownsRow_nil _ _ _ _) ⟨g, 0, none⟩ k k ((S.take k).map (Value.int .i64)) rfl L1.out (fun j u hj => SRC1.out (wq.drew.alloc (.cells #[.int .i64 x] 3)) B1.out j u hj) (one_int _) (by unfold maxLen; omega) (by omega) B1.out.size ?_
                   intro v1 wA hoA hgA
                   have HOA := Lib.hid hoA
                   have BA := Lib.hid (B1.out.trans ((below_own hgA).mono B1.out.size))
                   have HX := Lib.hid (cell_kept hgA)
                   have cA := CX.out wA BA.out
                   clear hoA hgA)
                | (refine own_step rfl (.tmp 46) (.tmp 51) 29 rfl wq.heap.size 3 i0 (.int .i64 0) 1 8 Try.underlying29 hi hz0 hz1 hz2 rfl (by decide) v1 _ _ rfl HOA.out ⟨wq.heap.size, 0, none⟩ 1 1 [.int .i64 x] rfl rfl HX.out (one_int [x]) (by unfold maxLen; omega) (by omega) BA.out.size ?_
                   intro v2 wC hoC hgC
                   have HOC := Lib.hid hoC
                   have BC := Lib.hid (Below.grown BA.out hgC BA.out.size (fun j hj => (HOA.out.lt j hj).1) : Below wq.heap.size wq wC)
                   have cC := CX.out wC BC.out
                   clear hoC hgC)
                | (refine own_step rfl (.tmp 52) (.tmp 55) 29 rfl wq.heap.size 3 i0 (.int .i64 0) 1 8 Try.underlying29 hi hz0 hz1 hz2 rfl (by decide) v2 _ _ rfl HOC.out ⟨g, 0, none⟩ 0 0 ((S.drop k).map (Value.int .i64)) rfl L3.out (fun j u hj => SRC3.out wC BC.out j u hj) (one_int _) (by unfold maxLen; omega) (by omega) BC.out.size ?_
                   intro v3 wD hoD hgD
                   have HOD := Lib.hid hoD
                   have BD := Lib.hid (Below.grown BC.out hgD BC.out.size (fun j hj => (HOC.out.lt j hj).1) : Below wq.heap.size wq wD)
                   have cD := CX.out wD BD.out
                   clear hoD hgD))
              all_goals
                have HOE := Lib.hid (own_ins HB0.out HSS.out.1 k x (by omega) (by rw [Nat.sub_self]; exact HOD.out))
                have HBE := Lib.hid (HB1.out.trans (BD.out.mono HB1.out.size))
                go_wp2
                go_roundw
                case rel => exact ⟨k + 1, insF S x k, by go_num, by omega, fun h => by omega, HOE, HSE, HBE⟩
                case measure => simp [intOf]; omega
            · have SRC3 := Lib.hid (fun W (h : Below wq.heap.size wq W) => sees_src (w := W) (b := g) (off := k) (zs := S.drop k) (fun j y hy => by
                rw [List.getElem?_drop] at hy; exact CS.out W h _ y hy))
              go_region_held3 (fun w' => w'.cell? ⟨b, off + k, none⟩ = some (.int .i64 x)) (first | exact cX | exact cX1 | exact cA | exact cA1 | exact cC | exact cD) (first
                | (refine own_step rfl (.const (.slice none 0 0)) (.tmp 45) 29 rfl wq.heap.size 3 i0 (.int .i64 0) 1 8 Try.underlying29 hi hz0 hz1 hz2 rfl (by decide) (.slice none 0 0) 0 [] rfl (World.ownsRow_nil _ _ _ _) ⟨g, 0, none⟩ k sc ((S.take k).map (Value.int .i64)) rfl L1.out (fun j u hj => SRC1.out wq.drew B0.out j u hj) (one_int _) (by unfold maxLen; omega) (by omega) (Nat.le_refl _) ?_
                   intro v1 wA hoA hgA
                   have HOA := Lib.hid hoA
                   have BA := Lib.hid (B0.out.trans ((below_own hgA).mono (Nat.le_refl _)))
                   have cA := CX.out wA BA.out
                   have cA1 := CX.out (wA.alloc (.cells #[.int .i64 x] 3)) (BA.out.alloc BA.out.size _)
                   clear hoA hgA)
                | (refine own_step rfl (.tmp 46) (.tmp 51) 29 rfl wq.heap.size 3 i0 (.int .i64 0) 1 8 Try.underlying29 hi hz0 hz1 hz2 rfl (by decide) v1 _ _ rfl (HOA.out.alloc _) ⟨wA.heap.size, 0, none⟩ 1 1 [.int .i64 x] rfl rfl (cell_1 _ _ _) (one_int [x]) (by unfold maxLen; omega) (by omega) (Nat.le_trans BA.out.size (by simp)) ?_
                   intro v2 wC hoC hgC
                   have HOC := Lib.hid hoC
                   have BC := Lib.hid (Below.grown (BA.out.alloc BA.out.size _) hgC (Nat.le_trans BA.out.size (by simp)) (fun j hj => (HOA.out.lt j hj).1) : Below wq.heap.size wq wC)
                   have cC := CX.out wC BC.out
                   clear hoC hgC)
                | (refine own_step rfl (.const (.slice none 0 0)) (.tmp 45) 29 rfl wq.heap.size 3 i0 (.int .i64 0) 1 8 Try.underlying29 hi hz0 hz1 hz2 rfl (by decide) (.slice none 0 0) 0 [] rfl (World.ownsRow_nil _ _ _ _) ⟨g, 0, none⟩ k sc ((S.take k).map (Value.int .i64)) rfl L1.out (fun j u hj => SRC1.out (wq.drew.alloc (.cells #[.int .i64 x] 3)) B1.out j u hj) (one_int _) (by unfold maxLen; omega) (by omega) B1.out.size ?_
                   intro v1 wA hoA hgA
                   have HOA := Lib.hid hoA
                   have BA := Lib.hid (B1.out.trans ((below_own hgA).mono B1.out.size))
                   have HX := Lib.hid (cell_kept hgA)
                   have cA := CX.out wA BA.out
                   clear hoA hgA)
                | (refine own_step rfl (.tmp 46) (.tmp 51) 29 rfl wq.heap.size 3 i0 (.int .i64 0) 1 8 Try.underlying29 hi hz0 hz1 hz2 rfl (by decide) v1 _ _ rfl HOA.out ⟨wq.heap.size, 0, none⟩ 1 1 [.int .i64 x] rfl rfl HX.out (one_int [x]) (by unfold maxLen; omega) (by omega) BA.out.size ?_
                   intro v2 wC hoC hgC
                   have HOC := Lib.hid hoC
                   have BC := Lib.hid (Below.grown BA.out hgC BA.out.size (fun j hj => (HOA.out.lt j hj).1) : Below wq.heap.size wq wC)
                   have cC := CX.out wC BC.out
                   clear hoC hgC)
                | (refine own_step rfl (.tmp 52) (.tmp 55) 29 rfl wq.heap.size 3 i0 (.int .i64 0) 1 8 Try.underlying29 hi hz0 hz1 hz2 rfl (by decide) v2 _ _ rfl HOC.out ⟨g, k, none⟩ 0 (sc - k) ((S.drop k).map (Value.int .i64)) rfl L3.out (fun j u hj => SRC3.out wC BC.out j u hj) (one_int _) (by unfold maxLen; omega) (by omega) BC.out.size ?_
                   intro v3 wD hoD hgD
                   have HOD := Lib.hid hoD
                   have BD := Lib.hid (Below.grown BC.out hgD BC.out.size (fun j hj => (HOC.out.lt j hj).1) : Below wq.heap.size wq wD)
                   have cD := CX.out wD BD.out
                   clear hoD hgD))
              all_goals
                have HOE := Lib.hid (own_ins HB0.out HSS.out.1 k x (by omega) (by rw [Nat.sub_self]; exact HOD.out))
                have HBE := Lib.hid (HB1.out.trans (BD.out.mono HB1.out.size))
                go_wp2
                go_roundw
                case rel => exact ⟨k + 1, insF S x k, by go_num, by omega, fun h => by omega, HOE, HSE, HBE⟩
                case measure => simp [intOf]; omega
    · obtain rfl : i = n := by omega
      obtain ⟨h1, h2, h3⟩ := HSS.out
      rw [List.take_of_length_le (by rw [HN.out]; exact Nat.le_refl _)] at h3
      have hrs := risen_eq h3 h2
      have hrk := rank_is HNE.out hp0 hp1
      rw [HR.out, hrs, HN.out] at hrk
      obtain ⟨g, sc, rfl, q1, q2, q3, q4⟩ := own_pos HO.out (by omega)
      obtain ⟨q, rfl⟩ : ∃ q : Nat, p = q := ⟨p.toNat, by omega⟩
      have hpl : placeF (q : Int) i = max ((q * i + 99) / 100) 1 := by unfold placeF; rw [Int.toNat_natCast]
      have hqn : ((q * i : Nat) : Int) = (q : Int) * i := Int.natCast_mul q i
      have hq3 := Nat.mul_le_mul_right i (show q ≤ 100 by omega)
      have r1 : (0 : Int) ≤ (q : Int) * i := by omega
      have r2 : (q : Int) * i ≤ 100000 := by omega
      have r3 : (q : Int) * i ≤ 100 * i := by omega
      have hix : max ((q * i + 99) / 100) 1 - 1 = (max (((q : Int) * i + 99) / 100) 1).toNat - 1 := by
        have h1 : ((q : Int) * i + 99) / 100 = (((q * i + 99) / 100 : Nat) : Int) := by simp
        rw [h1]; omega
      have hk : placeF (q : Int) i - 1 < i := by rw [hpl]; omega
      have hx : wr.cell? ⟨g, placeF (q : Int) i - 1, none⟩ = some (.int .i64 (S.getD (placeF (q : Int) i - 1) 0)) := by
        rw [HO.out.cellAt _ (by omega)]
        simp [List.getD, h1, hk]
      have i1 : (1 : Int) ≤ i := by omega
      generalize S.getD (placeF (q : Int) i - 1) 0 = r at hx hrk
      rw [hpl, hix] at hx
      have HK := Lib.hid hrk
      clear h1 h2 h3 hrs hpl hqn hq3 hix hk hrk hnil
      go_wp2
      go_ret2
      exact ⟨by rw [HK.out]; rfl, HB.out⟩
end Go.Proofs.Ytooibjanlmlidaa
