/- slices' stable sort at leporello/group.group: the whole. -/
import Derived.Test.YtbdnonphkobkoaaGreatSvg
import Derived.Test.YtbdnonphkobkoaaGreatSortG
import Derived.Shelf.SlSortCmp.PdqK
namespace Go.Proofs.YtbdnonphkobkoaaGreat.Stb
open Go.RowKit Go.Lib Go.Sort Go.Shelf

section
variable {α : Type} [Inhabited α] {enc : α → List Value} {w0 : World} {blk off : Nat} {d0 : Array α}

set_option maxRecDepth 1000000 in
theorem ins_g (R : RowK enc 2 w0 blk off d0) (cf : α → α → Int) (hS : SWO (ltOf cf)) (g : Nat) (eg : ∀ args w, (callFunc g args).run Tryz.prog w = .ok (.enter g args) w) (cap a b N : Nat) (hC : CmpLays Tryz.prog g #[] enc 2 cf blk off N w0) (P X S l : List α) (W : World) (hl : l = P ++ (X ++ S)) (ha : P.length = a) (hb : a + X.length = b) (hs : l.length = N) (hd : d0.size = N) (hN : N < 4611686018427387904)
    (h : SWK enc 2 w0 blk off l.toArray W) :
    Calls Tryz.prog 188 #[.slice (some ⟨blk, off, none⟩) N cap, .int .i64 a, .int .i64 b, .func (.func g) #[] #[]] W fun e w' => e = .returned (.tuple #[]) ∧ SWK enc 2 w0 blk off (P ++ (srt (ltOf cf) X ++ S)).toArray w' := by
  have hz : l.toArray.size = N := by simpa using hs
  have hbl : b ≤ N := by rw [← hs, hl]; simp only [List.length_append]; omega
  have := AnyQ.insertionSortCmpFunc_w (P := Tryz.prog) (ρ := Tryz.insGrp_ren) Tryz.insGrp 2 Tryz.isAgg115 Tryz.sizeOf115 enc cf g #[] blk off cap a b d0 l.toArray w0 W eg (by rw [hd]; exact hC) R (by rw [hz, hd]) h hS (by omega) (by rw [hz]; exact hbl) (by rw [hz]; exact hN)
  rw [insertion_list hS hl ha.symm (by omega), hz] at this
  exact this

set_option maxHeartbeats 8000000 in
set_option maxRecDepth 1000000 in
theorem stable_g (R : RowK enc 2 w0 blk off d0) (E : ∀ x, ∃ o n c o2 n2 c2, enc x = [.slice o n c, .slice o2 n2 c2]) (cf : α → α → Int) (hS : SWO (ltOf cf)) (g : Nat) (eg : ∀ args w, (callFunc g args).run Tryz.prog w = .ok (.enter g args) w) (cap N : Nat) (hC : CmpLays Tryz.prog g #[] enc 2 cf blk off N w0) (xs : List α) (W : World) (hs : xs.length = N) (hd : d0.size = N) (hN : N < 1000000000000000000)
    (h : SWK enc 2 w0 blk off xs.toArray W) :
    Calls Tryz.prog 157 #[.slice (some ⟨blk, off, none⟩) N cap, .int .i64 N, .func (.func g) #[] #[]] W fun e w' => e = .returned (.tuple #[]) ∧ SWK enc 2 w0 blk off (srt (ltOf cf) xs).toArray w' := by
  have HI := Lib.hid (fun (a b : Nat) (P X S l : List α) (W : World) h1 h2 h3 h4 h5 => ins_g R cf hS g eg cap a b N hC P X S l W h1 h2 h3 h4 hd (by omega) h5)
  have HM := Lib.hid (fun (a m b : Nat) (P U V S : List α) (W : World) h1 h2 h3 h4 h5 h6 h7 h8 h9 => symMerge_g R E cf hS g eg cap N hC hd (by omega) (U.length + V.length) a m b P U V S W (Nat.le_refl _) h1 h2 h3 h4 h5 h6 h7 h8 h9)
  have HSO := Lib.hid hS
  have HW := Lib.hid h
  have HX := Lib.hid hs
  clear h R E hC hS hs hd
  go_enter Tryz.func157, Tryz.ntmps157
  go_wp2
  go_loopg [7, 8] N (fun kx s7 s8 wr => ∃ (a b : Nat) (cur : List α), s7 = .int .i64 a ∧ s8 = .int .i64 b ∧ a + 20 ≤ b ∧ b ≤ a + 20 ∧ N - a ≤ kx ∧ a ≤ N ∧ Hid (StA (ltOf cf) 20 a xs cur) ∧ Hid (SWK enc 2 w0 blk off cur.toArray wr))
  case atStart => exact ⟨0, 20, xs, rfl, rfl, by omega, by omega, by omega, Nat.zero_le _, StA.start, HW.out⟩
  case round =>
    clear HW
    obtain ⟨a, b, cur, rfl, rfl, b1, b2, hkx, haN, HA, HS⟩ := hrel
    by_cases hlt : b ≤ N
    · have hltz : (b : Int) ≤ (N : Int) := by omega
      obtain ⟨P, X, S, e1, e2, e3, e4⟩ := StA.step HA.out (by rw [HX.out]; omega)
      have HC1 := Lib.hid (HI.out a b P X S cur wr e1 e2 (by omega) (by rw [← HX.out]; exact StA.len HA.out) HS.out)
      have HE := Lib.hid e4
      clear e1 e2 e3 e4 HS HA
      go_wp2_with fail
      refine HC1.out.mono ?_
      rintro e w2 ⟨rfl, hw2⟩
      have HW2 := Lib.hid hw2
      clear hw2 HC1
      go_wp2
      go_roundg (N - b)
      case measure => omega
      case rel =>
        refine ⟨b, b + 20, P ++ (srt (ltOf cf) X ++ S), rfl, by first | rfl | go_num, Nat.le_refl _, Nat.le_refl _, Nat.le_refl _, hlt, (show Hid _ from ?_), HW2⟩
        have := HE.out
        rwa [show a + 20 = b by omega] at this
    · have hltz : ¬ (b : Int) ≤ (N : Int) := by omega
      obtain ⟨P, X, e1, e2, e3, e4⟩ := StA.last HA.out (by rw [HX.out]; omega)
      have HC1 := Lib.hid (HI.out a N P X [] cur wr e1 e2 (by rw [← HX.out]; exact e3) (by rw [← HX.out]; exact StA.len HA.out) HS.out)
      have HE := Lib.hid e4
      clear e1 e2 e3 e4 HS HA HI
      go_wp2_with fail
      refine HC1.out.mono ?_
      rintro e w2 ⟨rfl, hw2⟩
      have HW2 := Lib.hid hw2
      obtain ⟨c2, hc2⟩ : ∃ c2, P ++ (srt (ltOf cf) X ++ []) = c2 := ⟨_, rfl⟩
      rw [hc2] at HE HW2
      clear hw2 HC1 hc2 hkx
      go_wp2
      go_loopg [6] N (fun ky s6 wq => ∃ (bs : Nat) (cur : List α), s6 = .int .i64 bs ∧ 0 < bs ∧ N - bs ≤ ky ∧ Hid (StB (ltOf cf) bs xs cur) ∧ Hid (SWK enc 2 w0 blk off cur.toArray wq))
      case atStart => exact ⟨20, c2, rfl, by omega, by omega, HE, HW2⟩
      case round =>
        clear HE HW2
        obtain ⟨bs, cur, rfl, hb0, hky, HB, HS⟩ := hrel
        by_cases hbn : bs < N
        · have hbz : (bs : Int) < (N : Int) := by omega
          obtain ⟨d, hd⟩ : ∃ d, 2 * bs = d := ⟨_, rfl⟩
          have zd : 2 * (bs : Int) = (d : Int) := by omega
          have zd' : (bs : Int) * 2 = (d : Int) := by omega
          have d1 : d ≤ bs + bs := by omega
          have d2 : bs + bs ≤ d := by omega
          have HDD := Lib.hid hd
          clear hd
          go_wp2
          go_loopg [7, 8] N (fun kz s7 s8 wr => ∃ (a b : Nat) (cur : List α), s7 = .int .i64 a ∧ s8 = .int .i64 b ∧ a + d ≤ b ∧ b ≤ a + d ∧ N - a ≤ kz ∧ a ≤ N ∧ Hid (StC (ltOf cf) bs a xs cur) ∧ Hid (SWK enc 2 w0 blk off cur.toArray wr))
          case atStart => exact ⟨0, d, cur, rfl, rfl, by omega, by omega, by omega, Nat.zero_le _, StB.to HB.out, HS.out⟩
          case round =>
            clear HS HB
            obtain ⟨a, b, cur, rfl, rfl, b1, b2, hkz, haN, HA, HS⟩ := hrel
            obtain ⟨m, hm⟩ : ∃ m, a + bs = m := ⟨_, rfl⟩
            have zm : (a : Int) + (bs : Int) = (m : Int) := by omega
            have m1 : a + bs ≤ m := by omega
            have m2 : m ≤ a + bs := by omega
            clear hm
            by_cases hlt : b ≤ N
            · have hltz : (b : Int) ≤ (N : Int) := by omega
              obtain ⟨P, U, V, S, e1, e2, e3, e4, e5, e6, e7⟩ := StC.step HSO.out HA.out hb0 (by rw [HX.out, HDD.out]; omega)
              have hln := StC.len HA.out
              rw [HX.out] at hln
              have HC1 := Lib.hid (HM.out a m b P U V S wr (by intro h; subst h; simp at e3; omega) (by intro h; subst h; simp at e4; omega) e5 e6 e2.symm (by omega) (by omega) (by rw [← e1]; exact hln) (by rw [← e1]; exact HS.out))
              have HE := Lib.hid e7
              clear e1 e2 e3 e4 e5 e6 e7 HS HA hln
              go_wp2_with fail
              refine HC1.out.mono ?_
              rintro e w2 ⟨rfl, hw2⟩
              have HW2 := Lib.hid hw2
              clear hw2 HC1
              go_wp2
              go_roundg (N - b)
              case measure => omega
              case rel =>
                refine ⟨b, b + d, P ++ (mg (ltOf cf) U V ++ S), rfl, by first | rfl | go_num, Nat.le_refl _, Nat.le_refl _, Nat.le_refl _, hlt, (show Hid _ from ?_), HW2⟩
                have := HE.out
                rwa [show a + 2 * bs = b by rw [HDD.out]; omega] at this
            · have hltz : ¬ (b : Int) ≤ (N : Int) := by omega
              by_cases hmn : m < N
              · have hmz : (m : Int) < (N : Int) := by omega
                obtain ⟨P, U, V, e1, e2, e3, e4, e5, e6, e7⟩ := StC.last1 HSO.out HA.out (by rw [HX.out, HDD.out]; omega) (by rw [HX.out]; omega)
                have hln := StC.len HA.out
                rw [HX.out] at hln e4
                have HC1 := Lib.hid (HM.out a m N P U V [] wr (by intro h; subst h; simp at e3; omega) (by intro h; subst h; simp at e4; omega) e5 e6 e2.symm (by omega) (by omega) (by rw [← e1]; exact hln) (by rw [← e1]; exact HS.out))
                have HE := Lib.hid e7
                clear e1 e2 e3 e4 e5 e6 e7 HS HA hln
                go_wp2_with fail
                refine HC1.out.mono ?_
                rintro e w2 ⟨rfl, hw2⟩
                have HW2 := Lib.hid hw2
                clear hw2 HC1
                go_wp2
                go_roundg (N - d)
                case measure => omega
                case rel =>
                  refine ⟨d, P ++ (mg (ltOf cf) U V ++ []), by first | rfl | go_num, by omega, Nat.le_refl _, (show Hid _ from ?_), HW2⟩
                  have := HE.out
                  rwa [HDD.out] at this
              · have hmz : ¬ (m : Int) < (N : Int) := by omega
                have HE := Lib.hid (show StB (ltOf cf) d xs cur from by
                  have := StC.last2 HA.out (by rw [HX.out, HDD.out]; omega) (by rw [HX.out]; omega)
                  rwa [HDD.out] at this)
                clear HA
                go_wp2
                go_roundg (N - d)
                case measure => omega
                case rel => exact ⟨d, cur, by first | rfl | go_num, by omega, Nat.le_refl _, HE, HS⟩
        · have hbz : ¬ (bs : Int) < (N : Int) := by omega
          have HF := Lib.hid (show SWK enc 2 w0 blk off (srt (ltOf cf) xs).toArray wr from by
            rw [← StB.all HB.out (by rw [HX.out]; omega)]; exact HS.out)
          clear HS HB
          go_wp2
          go_end0
          exact ⟨rfl, HF.out⟩

set_option maxHeartbeats 4000000 in
set_option maxRecDepth 1000000 in
theorem sortStable_g (R : RowK enc 2 w0 blk off d0) (E : ∀ x, ∃ o n c o2 n2 c2, enc x = [.slice o n c, .slice o2 n2 c2]) (cf : α → α → Int) (hS : SWO (ltOf cf)) (g : Nat) (eg : ∀ args w, (callFunc g args).run Tryz.prog w = .ok (.enter g args) w) (cap N : Nat) (hC : CmpLays Tryz.prog g #[] enc 2 cf blk off N w0) (xs : List α) (W : World) (hs : xs.length = N) (hd : d0.size = N) (hN : N < 1000000000000000000)
    (h : SWK enc 2 w0 blk off xs.toArray W) :
    Calls Tryz.prog 132 #[.slice (some ⟨blk, off, none⟩) N cap, .func (.func g) #[] #[]] W fun e w' => e = .returned (.tuple #[]) ∧ SWK enc 2 w0 blk off (srt (ltOf cf) xs).toArray w' := by
  have HC := Lib.hid (stable_g R E cf hS g eg cap N hC xs W hs hd hN h)
  clear h R E hC hS hs hd
  go_enter Tryz.func132, Tryz.ntmps132
  go_wp2_with fail
  refine HC.out.mono ?_
  rintro e w2 ⟨rfl, hw2⟩
  have HW2 := Lib.hid hw2
  clear hw2 HC
  go_wp2
  go_end0
  exact ⟨rfl, HW2.out⟩
end
end Go.Proofs.YtbdnonphkobkoaaGreat.Stb
