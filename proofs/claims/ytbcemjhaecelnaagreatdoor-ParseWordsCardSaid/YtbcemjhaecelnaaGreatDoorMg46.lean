import Derived.Test.YtbcemjhaecelnaaGreatDoorMg44
import Derived.Test.YtbcemjhaecelnaaGreatDoorMg45
import Derived.Test.YtbcemjhaecelnaaGreatDoorMg26
section
set_option maxHeartbeats 16000000
set_option maxRecDepth 100000
namespace Go.Proofs.YtbcemjhaecelnaaGreatDoor.Drd
open Go.RowKit Go.Lib Par Sto
theorem matsC_is : zhz := fun o n c ms P W hn hm hok S => rmatchers_any o n c ms P W hn hm hok S
theorem dread_any (s : ByteArray) (hs : s.size <= 600) (w : World) : Calls Tryz.prog 8 #[.string s] w fun e w' => ReadEnd w s e w' /\ Below w.heap.size w w' := by
 cases hl : lexL s.data.toList with
 | none =>
   refine (dread_err s 2 (by decide) w ((zeM s _ (by omega)).mono fun e w' ⟨h1, h2⟩ => ⟨by
    unfold zaU at h1
    rw [if_neg (by rw [<- Lib.size_eq]; omega), hl] at h1
    exact h1, h2⟩)).mono ?_
   rintro e w' ⟨h1, h2⟩
   exact ⟨read_none (by omega) (by unfold zbk; rw [hl]) h1, h2⟩
 | some ws => exact dread_toks matsC_is s (by omega) ws hl w
theorem end_open {w w' : World} {s : ByteArray} {e : Ending} (hs : s.size <= 600) (h : ReadEnd w s e w') :
 ∃ (a tx : ByteArray) (z m : Int) (o1 : Option Addr) (k1 c1 : Nat) (o2 : Option Addr) (k2 c2 : Nat) (o3 : Option Addr) (k3 c3 : Nat) (od li ob ec : Int), e = .returned (.tuple #[.agg #[.string a, .string tx, .int .i64 z, .int .i64 m, .slice o1 k1 c1, .slice o2 k2 c2, .slice o3 k3 c3, .int .i64 od, .int .i64 li, .int .i64 ob], .int .i64 ec]) /\
  (zbk s.data.toList = none -> ec = 2) /\ ∀ q, zbk s.data.toList = some q -> ec = 0 /\ Nod w' (fun b => w.heap.size <= b) [.string a, .string tx, .int .i64 z, .int .i64 m, .slice o1 k1 c1, .slice o2 k2 c2, .slice o3 k3 c3] q.root := by
 unfold ReadEnd at h
 rw [if_neg (by omega)] at h
 cases hr : zbk s.data.toList with
 | none =>
   rw [hr] at h
   exact ⟨_, _, _, _, _, _, _, _, _, _, _, _, _, _, _, _, _, h, fun _ => rfl, fun q hq => by cases hq⟩
 | some q =>
   rw [hr] at h
   obtain ⟨cs, rfl, hn⟩ := h
   obtain ⟨a, b, n, m, o1, k1, c1, o2, k2, c2, o3, k3, c3, rfl⟩ := hn.raw
   exact ⟨_, _, _, _, _, _, _, _, _, _, _, _, _, _, _, _, _, rfl, (fun h => by cases h), fun q2 hq => by injection hq with hq; subst hq; exact ⟨rfl, hn⟩⟩
def zbf : List ByteArray := [⟨#[115, 117, 109]⟩, ⟨#[98, 121]⟩, ⟨#[108, 105, 109, 105, 116]⟩, ⟨#[114, 97, 116, 101]⟩, ⟨#[111, 114, 100, 101, 114]⟩, ⟨#[97, 115, 99]⟩, ⟨#[111, 110]⟩]
theorem words_none : ∀ x ∈ zbf, zbk x.data.toList = none := by
 intro x hx
 simp only [zbf, List.mem_cons, List.not_mem_nil, or_false] at hx
 rcases hx with rfl | rfl | rfl | rfl | rfl | rfl | rfl <;> decide +kernel
theorem words_law (s : ByteArray) (w : World) (h : Env w) (hs : s.size <= maxLen) :
 Calls Tryz.prog 5 #[.string s] w fun e w' => e = .returned (.bool true) /\ Below w.heap.size w w' := by
 have HA := zh (fun W hE => alive_any W hE)
 have HE0 := zh h
 have hsm : (s.size : Int) <= 9223372036854775807 := by unfold maxLen at hs; omega
 by_cases hbig : 100 < s.size
 ·have i1 : (100 : Int) < s.size := by omega
  have HA1 := zh (HA.out w h)
  clear h hs hbig
  go_enter Tryz.func5, Tryz.ntmps5
  go_wp2_with fail
  refine HA1.out.mono ?_
  rintro e w1 ⟨rfl, b1⟩
  go_wp2
  go_ret
  exact ⟨rfl, b1⟩
 have i1 : (s.size : Int) <= 100 := by omega
 have HA1 := zh (HA.out w h)
 have HRE := zh (fun W hE => zgr s hs W hE)
 have HDR := zh (fun W => dread_any s (by omega) W)
 have HOP := zh (fun (w w' : World) (e : Ending) (h : ReadEnd w s e w') => end_open (by omega) h)
 have HFEW := zh (fun q (h : zbk s.data.toList = some q) => read_few (by omega : s.size <= 600) h)
 have HWN := zh (fun x (hx : x ∈ zbf) (he : s = x) => (show zbk s.data.toList = none by rw [he]; exact words_none x hx))
 clear h hs hbig
 go_enter Tryz.func5, Tryz.ntmps5
 go_wp2_with fail
 refine HA1.out.mono ?_
 rintro e w1 ⟨rfl, b1⟩
 have HB1 := zh b1
 have HP := zh (HRE.out w1 (HE0.out.below b1))
 clear b1
 go_wp2_with fail
 refine HP.out.mono ?_
 rintro e w2 ⟨hre, b2⟩
 obtain ⟨a, tx, z, m, o1, k1, c1, o2, k2, c2, o3, k3, c3, od, li, ob, ec, rfl, hn1, hy1⟩ := HOP.out _ _ _ hre
 have HB2 := zh (HB1.out.trans (b2.mono HB1.out.size))
 have HX1 := zh (And.intro hn1 hy1)
 have HD := zh (HDR.out (w2.alloc (Obj.cells #[.string a, .string tx, .int .i64 z, .int .i64 m, .slice o1 k1 c1, .slice o2 k2 c2, .slice o3 k3 c3, .int .i64 od, .int .i64 li, .int .i64 ob] 29)))
 have HBX1 := zh (zaS w2 (.string a) (.string tx) (.int .i64 z) (.int .i64 m) (.slice o1 k1 c1) (.slice o2 k2 c2) (.slice o3 k3 c3) (.int .i64 od) (.int .i64 li) (.int .i64 ob))
 clear hre b2 hn1 hy1
 go_wp2_with fail
 refine HD.out.mono ?_
 rintro e w3 ⟨hre, b3⟩
 obtain ⟨a2, tx2, z2, m2, p1, j1, d1, p2, j2, d2, p3, j3, d3, od2, li2, ob2, ec2, rfl, hn2, hy2⟩ := HOP.out _ _ _ hre
 have hsz3 : w2.heap.size + 1 <= w3.heap.size := by have := b3.size; simpa using this
 have HBX3 := zh (show zbb w3 w2.heap.size (.string a) (.string tx) (.int .i64 z) (.int .i64 m) (.slice o1 k1 c1) (.slice o2 k2 c2) (.slice o3 k3 c3) (.int .i64 od) (.int .i64 li) (.int .i64 ob) from (b3.block _ (by simp)).trans HBX1.out)
 have HB3 := zh (show Below w.heap.size w w3 from (HB2.out.alloc HB2.out.size _).trans (b3.mono (by have := HB2.out.size; simp; omega)))
 have HBY := zh (zaS w3 (.string a2) (.string tx2) (.int .i64 z2) (.int .i64 m2) (.slice p1 j1 d1) (.slice p2 j2 d2) (.slice p3 j3 d3) (.int .i64 od2) (.int .i64 li2) (.int .i64 ob2))
 have HEC := zh (show ec2 = ec from by
  cases hr : zbk s.data.toList with
  | none => rw [hn2 hr, HX1.out.1 hr]
  | some q => rw [(hy2 q hr).1, (HX1.out.2 q hr).1])
 have HND := zh (fun q (hq : zbk s.data.toList = some q) => (show ec = 0 /\ Nod w3 (fun b => w1.heap.size <= b) [.string a, .string tx, .int .i64 z, .int .i64 m, .slice o1 k1 c1, .slice o2 k2 c2, .slice o3 k3 c3] q.root /\ Nod w3 (fun b => (w2.alloc (Obj.cells #[.string a, .string tx, .int .i64 z, .int .i64 m, .slice o1 k1 c1, .slice o2 k2 c2, .slice o3 k3 c3, .int .i64 od, .int .i64 li, .int .i64 ob] 29)).heap.size <= b) [.string a2, .string tx2, .int .i64 z2, .int .i64 m2, .slice p1 j1 d1, .slice p2 j2 d2, .slice p3 j3 d3] q.root from ⟨(HX1.out.2 q hq).1, (HX1.out.2 q hq).2.keep fun k hk hkl => ⟨(b3.block k (by simp; omega)).trans (Below.heap_alloc _ _ _ hkl), hk⟩, (hy2 q hq).2⟩))
 obtain rfl : ec2 = ec := HEC.out
 have HNO := zh (show zbk s.data.toList = none -> ec2 = 2 from HX1.out.1)
 have HWE := zh (fun x (hx : x ∈ zbf) (he : s = x) => (show ec2 = 2 from HX1.out.1 (HWN.out x hx he)))
 clear hre b3 hn2 hy2
 go_upto_region 7 with fail
 go_cut [30, 31, 32] from 9 (fun u30 u31 u32 wx => ∃ rb : Nat, u30 = .slice (some ⟨rb, 0, none⟩) 7 7 /\ u31 = .int .i64 7 /\ u32 = .int .i64 0 /\ Hid (∀ (k : Nat) (x : ByteArray), zbf[k]? = some x -> wx.cell? ⟨rb, k, none⟩ = some (.string x)) /\ Hid (zbb wx w2.heap.size (.string a) (.string tx) (.int .i64 z) (.int .i64 m) (.slice o1 k1 c1) (.slice o2 k2 c2) (.slice o3 k3 c3) (.int .i64 od) (.int .i64 li) (.int .i64 ob)) /\ Hid (zbb wx w3.heap.size (.string a2) (.string tx2) (.int .i64 z2) (.int .i64 m2) (.slice p1 j1 d1) (.slice p2 j2 d2) (.slice p3 j3 d3) (.int .i64 od2) (.int .i64 li2) (.int .i64 ob2)) /\ Hid (Below w.heap.size w wx) /\ Hid (∀ q, zbk s.data.toList = some q -> ec2 = 0 /\ Nod wx (fun _ => True) [.string a, .string tx, .int .i64 z, .int .i64 m, .slice o1 k1 c1, .slice o2 k2 c2, .slice o3 k3 c3] q.root /\ Nod wx (fun _ => True) [.string a2, .string tx2, .int .i64 z2, .int .i64 m2, .slice p1 j1 d1, .slice p2 j2 d2, .slice p3 j3 d3] q.root))
 case first =>
  have HR1 := zh (show ((w3.alloc (Obj.cells #[.string a2, .string tx2, .int .i64 z2, .int .i64 m2, .slice p1 j1 d1, .slice p2 j2 d2, .slice p3 j3 d3, .int .i64 od2, .int .i64 li2, .int .i64 ob2] 29)).alloc (Obj.cells #[.string ⟨#[115, 117, 109]⟩, .string ⟨#[98, 121]⟩, .string ⟨#[108, 105, 109, 105, 116]⟩, .string ⟨#[114, 97, 116, 101]⟩, .string ⟨#[111, 114, 100, 101, 114]⟩, .string ⟨#[97, 115, 99]⟩, .string ⟨#[111, 110]⟩] 9)).heap[w3.heap.size + 1]? = some (Obj.cells #[.string ⟨#[115, 117, 109]⟩, .string ⟨#[98, 121]⟩, .string ⟨#[108, 105, 109, 105, 116]⟩, .string ⟨#[114, 97, 116, 101]⟩, .string ⟨#[111, 114, 100, 101, 114]⟩, .string ⟨#[97, 115, 99]⟩, .string ⟨#[111, 110]⟩] 9) from by
   have : ((w3.alloc (Obj.cells #[.string a2, .string tx2, .int .i64 z2, .int .i64 m2, .slice p1 j1 d1, .slice p2 j2 d2, .slice p3 j3 d3, .int .i64 od2, .int .i64 li2, .int .i64 ob2] 29)).alloc (Obj.cells #[.string ⟨#[115, 117, 109]⟩, .string ⟨#[98, 121]⟩, .string ⟨#[108, 105, 109, 105, 116]⟩, .string ⟨#[114, 97, 116, 101]⟩, .string ⟨#[111, 114, 100, 101, 114]⟩, .string ⟨#[97, 115, 99]⟩, .string ⟨#[111, 110]⟩] 9)).heap[(w3.alloc (Obj.cells #[.string a2, .string tx2, .int .i64 z2, .int .i64 m2, .slice p1 j1 d1, .slice p2 j2 d2, .slice p3 j3 d3, .int .i64 od2, .int .i64 li2, .int .i64 ob2] 29)).heap.size]? = some (Obj.cells #[.string ⟨#[115, 117, 109]⟩, .string ⟨#[98, 121]⟩, .string ⟨#[108, 105, 109, 105, 116]⟩, .string ⟨#[114, 97, 116, 101]⟩, .string ⟨#[111, 114, 100, 101, 114]⟩, .string ⟨#[97, 115, 99]⟩, .string ⟨#[111, 110]⟩] 9) := Array.getElem?_push_size
   rwa [World.size_alloc] at this)
  have HR2 := zh (show ∀ (k : Nat) (x : ByteArray), zbf[k]? = some x -> ((w3.alloc (Obj.cells #[.string a2, .string tx2, .int .i64 z2, .int .i64 m2, .slice p1 j1 d1, .slice p2 j2 d2, .slice p3 j3 d3, .int .i64 od2, .int .i64 li2, .int .i64 ob2] 29)).alloc (Obj.cells #[.string ⟨#[115, 117, 109]⟩, .string ⟨#[98, 121]⟩, .string ⟨#[108, 105, 109, 105, 116]⟩, .string ⟨#[114, 97, 116, 101]⟩, .string ⟨#[111, 114, 100, 101, 114]⟩, .string ⟨#[97, 115, 99]⟩, .string ⟨#[111, 110]⟩] 9)).cell? ⟨w3.heap.size + 1, k, none⟩ = some (.string x) from fun k x hk => by
   match k, hk with
   | 0, hk => simp [zbf] at hk; subst hk; unfold World.cell?; simp only [HR1.out]; rfl
   | 1, hk => simp [zbf] at hk; subst hk; unfold World.cell?; simp only [HR1.out]; rfl
   | 2, hk => simp [zbf] at hk; subst hk; unfold World.cell?; simp only [HR1.out]; rfl
   | 3, hk => simp [zbf] at hk; subst hk; unfold World.cell?; simp only [HR1.out]; rfl
   | 4, hk => simp [zbf] at hk; subst hk; unfold World.cell?; simp only [HR1.out]; rfl
   | 5, hk => simp [zbf] at hk; subst hk; unfold World.cell?; simp only [HR1.out]; rfl
   | 6, hk => simp [zbf] at hk; subst hk; unfold World.cell?; simp only [HR1.out]; rfl
   | k + 7, hk => simp [zbf] at hk)
  have HR3 := zh (show zbb ((w3.alloc (Obj.cells #[.string a2, .string tx2, .int .i64 z2, .int .i64 m2, .slice p1 j1 d1, .slice p2 j2 d2, .slice p3 j3 d3, .int .i64 od2, .int .i64 li2, .int .i64 ob2] 29)).alloc (Obj.cells #[.string ⟨#[115, 117, 109]⟩, .string ⟨#[98, 121]⟩, .string ⟨#[108, 105, 109, 105, 116]⟩, .string ⟨#[114, 97, 116, 101]⟩, .string ⟨#[111, 114, 100, 101, 114]⟩, .string ⟨#[97, 115, 99]⟩, .string ⟨#[111, 110]⟩] 9)) w2.heap.size (.string a) (.string tx) (.int .i64 z) (.int .i64 m) (.slice o1 k1 c1) (.slice o2 k2 c2) (.slice o3 k3 c3) (.int .i64 od) (.int .i64 li) (.int .i64 ob) from (Below.heap_alloc _ _ _ (by simp; omega)).trans ((Below.heap_alloc _ _ _ (by omega)).trans HBX3.out))
  have HR4 := zh (show zbb ((w3.alloc (Obj.cells #[.string a2, .string tx2, .int .i64 z2, .int .i64 m2, .slice p1 j1 d1, .slice p2 j2 d2, .slice p3 j3 d3, .int .i64 od2, .int .i64 li2, .int .i64 ob2] 29)).alloc (Obj.cells #[.string ⟨#[115, 117, 109]⟩, .string ⟨#[98, 121]⟩, .string ⟨#[108, 105, 109, 105, 116]⟩, .string ⟨#[114, 97, 116, 101]⟩, .string ⟨#[111, 114, 100, 101, 114]⟩, .string ⟨#[97, 115, 99]⟩, .string ⟨#[111, 110]⟩] 9)) w3.heap.size (.string a2) (.string tx2) (.int .i64 z2) (.int .i64 m2) (.slice p1 j1 d1) (.slice p2 j2 d2) (.slice p3 j3 d3) (.int .i64 od2) (.int .i64 li2) (.int .i64 ob2) from (Below.heap_alloc _ _ _ (by simp)).trans HBY.out)
  have HR5 := zh (show Below w.heap.size w ((w3.alloc (Obj.cells #[.string a2, .string tx2, .int .i64 z2, .int .i64 m2, .slice p1 j1 d1, .slice p2 j2 d2, .slice p3 j3 d3, .int .i64 od2, .int .i64 li2, .int .i64 ob2] 29)).alloc (Obj.cells #[.string ⟨#[115, 117, 109]⟩, .string ⟨#[98, 121]⟩, .string ⟨#[108, 105, 109, 105, 116]⟩, .string ⟨#[114, 97, 116, 101]⟩, .string ⟨#[111, 114, 100, 101, 114]⟩, .string ⟨#[97, 115, 99]⟩, .string ⟨#[111, 110]⟩] 9)) from (HB3.out.alloc HB3.out.size _).alloc (by have := HB3.out.size; simp; omega) _)
  have HR6 := zh (show ∀ q, zbk s.data.toList = some q -> ec2 = 0 /\ Nod ((w3.alloc (Obj.cells #[.string a2, .string tx2, .int .i64 z2, .int .i64 m2, .slice p1 j1 d1, .slice p2 j2 d2, .slice p3 j3 d3, .int .i64 od2, .int .i64 li2, .int .i64 ob2] 29)).alloc (Obj.cells #[.string ⟨#[115, 117, 109]⟩, .string ⟨#[98, 121]⟩, .string ⟨#[108, 105, 109, 105, 116]⟩, .string ⟨#[114, 97, 116, 101]⟩, .string ⟨#[111, 114, 100, 101, 114]⟩, .string ⟨#[97, 115, 99]⟩, .string ⟨#[111, 110]⟩] 9)) (fun _ => True) [.string a, .string tx, .int .i64 z, .int .i64 m, .slice o1 k1 c1, .slice o2 k2 c2, .slice o3 k3 c3] q.root /\ Nod ((w3.alloc (Obj.cells #[.string a2, .string tx2, .int .i64 z2, .int .i64 m2, .slice p1 j1 d1, .slice p2 j2 d2, .slice p3 j3 d3, .int .i64 od2, .int .i64 li2, .int .i64 ob2] 29)).alloc (Obj.cells #[.string ⟨#[115, 117, 109]⟩, .string ⟨#[98, 121]⟩, .string ⟨#[108, 105, 109, 105, 116]⟩, .string ⟨#[114, 97, 116, 101]⟩, .string ⟨#[111, 114, 100, 101, 114]⟩, .string ⟨#[97, 115, 99]⟩, .string ⟨#[111, 110]⟩] 9)) (fun _ => True) [.string a2, .string tx2, .int .i64 z2, .int .i64 m2, .slice p1 j1 d1, .slice p2 j2 d2, .slice p3 j3 d3] q.root from fun q hq => ⟨(HND.out q hq).1, (HND.out q hq).2.1.keep fun k _ hkl => ⟨(Below.heap_alloc _ _ _ (by simp; omega)).trans (Below.heap_alloc _ _ _ hkl), trivial⟩, (HND.out q hq).2.2.keep fun k _ hkl => ⟨(Below.heap_alloc _ _ _ (by simp; omega)).trans (Below.heap_alloc _ _ _ hkl), trivial⟩⟩)
  go_wp2
  go_meet
  case rel => exact ⟨_, rfl, rfl, rfl, HR2.out, HR3.out, HR4.out, HR5.out, HR6.out⟩
 case rest =>
 obtain ⟨rb, rfl, rfl, rfl, HW, HQ1, HQ2, HB4, HN4⟩ := hcut
 clear HA HA1 HRE HDR HOP HP HD HBX1 HBX3 HBY HND HB1 HB2 HB3 HX1 HWN hsz3
 go_wp2_with fail
 go_loopw [32] (fun v32 wr => ∃ k : Nat, v32 = .int .i64 k /\ k <= 7 /\ wr = wc) (fun v32 _ => 7 - (Go.RowKit.intOf v32).toNat)
 case atStart => exact ⟨0, rfl, by omega, rfl⟩
 case round =>
  obtain ⟨k, rfl, hk7, rfl⟩ := hrel
  by_cases hk : k < 7
  ·have j1 : (k : Int) < 7 := by omega
   have j0 : (0 : Int) <= k := by omega
   obtain ⟨x, hx⟩ : ∃ x, zbf[k]? = some x := ⟨_, List.getElem?_eq_getElem (by simpa [zbf] using hk)⟩
   have cx := HW.out k x hx
   by_cases hsx : s = x
   ·have hec := HWE.out x (List.mem_of_getElem? hx) hsx
    subst hec
    subst hsx
    clear hx
    go_wp2
    go_roundw
    case rel => exact ⟨k + 1, by go_num, by omega, trivial⟩
    case measure => simp [Go.RowKit.intOf]; omega
   ·obtain ⟨n1, n2, n3⟩ := zim hsx
    clear hx hsx
    go_wp2
    go_roundw
    case rel => exact ⟨k + 1, by go_num, by omega, trivial⟩
    case measure => simp [Go.RowKit.intOf]; omega
  ·obtain rfl : k = 7 := by omega
   cases hr : zbk s.data.toList with
   | none =>
     have he2 := HNO.out hr
     subst he2
     clear hr
     go_wp2
     go_ret
     exact ⟨rfl, HB4.out⟩
   | some q =>
     obtain ⟨he0, hna, hnb⟩ := HN4.out q hr
     obtain ⟨⟨q0, q1, q2, q3, q4, q5, q6, q7, q8, q9⟩, -⟩ := HQ1.out.reads
     obtain ⟨⟨s0, s1, s2, s3, s4, s5, s6, s7, s8, s9⟩, -⟩ := HQ2.out.reads
     have HSM := zh (zgs (countE q.root) q.root q.root (Nat.le_refl _) (HFEW.out q hr) _ _ _ _ _ _ _ _ _ _ _ _ _ _ _ _ _ _ _ _ _ _ _ _ _ _ _ _ _ hna hnb)
     rw [decide_eq_true rfl] at HSM
     subst he0
     clear hna hnb hr
     go_wp2_with fail
     refine HSM.out.mono ?_
     rintro e w5 ⟨rfl, b5⟩
     have HB5 := zh (HB4.out.trans (b5.mono HB4.out.size))
     clear b5
     go_wp2
     go_ret
     exact ⟨rfl, HB5.out⟩
end Go.Proofs.YtbcemjhaecelnaaGreatDoor.Drd
end
