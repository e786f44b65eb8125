import Derived.Test.YtbcemjhaecelnaaGreatDoorMg31
import Derived.Test.YtbcemjhaecelnaaGreatDoorMg17
import Derived.Deep.LoopGhost
import Derived.Test.YtbcemjhaecelnaaGreatDoorMg19
section
set_option maxHeartbeats 8000000
set_option maxRecDepth 100000
namespace Go.Proofs.YtbcemjhaecelnaaGreatDoor.Drd
open Go.RowKit Go.Lib
open Go.Proofs.YtbcemjhaecelnaaGreatDoor.Par
theorem drop_cons {s : ByteArray} {n : Nat} (h : n < s.size) : s.data.toList.drop n = s[n] :: s.data.toList.drop (n + 1) := by
 rw [List.drop_eq_getElem_cons (by rw [<- Lib.size_eq]; exact h)]
 rfl
theorem zfr (ds : List UInt8) (hd : ∀ c ∈ ds, digB c = true) (hv : valL ds <= 1000000000000) (hl : ds.length <= 100) (w : World) :
 Calls Tryz.prog 25 #[.string ⟨ds.toArray⟩] w fun e w' => e = .returned (.int .i64 (valL ds : Nat)) /\ w = w' := by
 obtain ⟨s, hs⟩ : ∃ s : ByteArray, s = ⟨ds.toArray⟩ := ⟨_, rfl⟩
 have hsd : s.data.toList = ds := by rw [hs]
 have hsz : s.size = ds.length := by rw [hs]; simp [ByteArray.size]
 rw [<- hs]
 obtain ⟨V, hV⟩ : ∃ V, valL ds = V := ⟨_, rfl⟩
 have HV := zh hV
 have HSD := zh hsd
 have HSZ := zh hsz
 have HD := zh hd
 rw [hV] at hv ⊢
 have hsz2 : s.size <= 100 := by omega
 clear hV hsd hsz hd hl hs
 go_enter Tryz.func25, Tryz.ntmps25
 go_wp2
 go_loopw [3, 4] (fun vm vi wr => ∃ (pos m : Nat), vi = .int .i64 pos /\ vm = .int .i64 m /\ wr = w /\ Hid (zc4 m (ds.drop pos) = V) /\ pos <= s.size) (fun _ vi _ => s.size - (Go.RowKit.intOf vi).toNat)
 case atStart => exact ⟨0, 0, rfl, rfl, rfl, HV.out, Nat.zero_le _⟩
 case round =>
  obtain ⟨pos, m, rfl, rfl, rfl, H, hps⟩ := hrel
  by_cases hp : pos < s.size
  ·have q1 : (pos : Int) < s.size := by omega
   have hdc := drop_cons hp
   rw [HSD.out] at hdc
   have hmem : s[pos] ∈ ds := List.mem_of_mem_drop (by rw [hdc]; simp)
   have hcd : 48 <= s[pos].toNat /\ s[pos].toNat <= 57 := of_decide_eq_true (HD.out _ hmem)
   have H2 := zh (show zc4 (m * 10 + (s[pos].toNat - 48)) (ds.drop (pos + 1)) = V by
    rw [<- H.out, hdc]; rfl)
   have hm : m * 10 + (s[pos].toNat - 48) <= 1000000000000 := by
    have := zeV (ds.drop (pos + 1)) (m * 10 + (s[pos].toNat - 48))
    rw [H2.out] at this; omega
   have q2 : (48 : Int) <= s[pos].toNat := by omega
   have q3 : (s[pos].toNat : Int) <= 57 := by omega
   have q4 : (m : Int) * 10 + (s[pos].toNat - 48) <= 1000000000000 := by omega
   have H5 := zh hm
   clear hdc hmem hcd H hm
   go_wp2
   go_roundw
   case rel => exact ⟨pos + 1, m * 10 + (s[pos].toNat - 48), by go_num, ziM (by omega), (by first | exact True.intro | rfl), H2, by omega⟩
   case measure => simp [Go.RowKit.intOf]; omega
  ·have q1 : ¬ (pos : Int) < s.size := by omega
   have H2 : Hid (m = V) := by
    show _ = _
    rw [<- H.out, List.drop_eq_nil_of_le (by rw [<- HSZ.out]; omega)]; rfl
   go_wp2
   go_ret
   exact ⟨by rw [H2.out]; rfl, rfl⟩
theorem zcR (bd : Nat) (l : List Tq) (nn : Nat) (bad : Bool) (w : World) (h : Rdd w bd l nn bad) (hn : nn <= 1000000000) (a b : ByteArray) (z m : Int) (o1 : Option Addr) (k1 c1 : Nat) (o2 : Option Addr) (k2 c2 : Nat) (o3 : Option Addr) (k3 c3 : Nat) :
 Calls Tryz.prog 52 #[.pointer (some ⟨bd, 0, none⟩), .agg #[.string a, .string b, .int .i64 z, .int .i64 m, .slice o1 k1 c1, .slice o2 k2 c2, .slice o3 k3 c3]] w fun e w' => e = .returned (.agg #[.string a, .string b, .int .i64 z, .int .i64 m, .slice o1 k1 c1, .slice o2 k2 c2, .slice o3 k3 c3]) /\ Rdd w' bd l (nn + 1) bad /\ w.grownBy w' (some bd) := by
 have hlt := h.lt
 have HD := zh h
 have HG := zh (show w.grownBy ((w.alloc (Obj.cells #[.string a, .string b, .int .i64 z, .int .i64 m, .slice o1 k1 c1, .slice o2 k2 c2, .slice o3 k3 c3] 27)).alloc (Obj.cells #[.string ⟨#[]⟩, .string ⟨#[]⟩, .int .i64 0, .int .i64 0, .slice none 0 0, .slice none 0 0, .slice none 0 0] 27)) (some bd) from grown_alloc (grown_alloc (grown_refl _ _) _) _)
 obtain ⟨W2, hW2⟩ : ∃ W2, (w.alloc (Obj.cells #[.string a, .string b, .int .i64 z, .int .i64 m, .slice o1 k1 c1, .slice o2 k2 c2, .slice o3 k3 c3] 27)).alloc (Obj.cells #[.string ⟨#[]⟩, .string ⟨#[]⟩, .int .i64 0, .int .i64 0, .slice none 0 0, .slice none 0 0, .slice none 0 0] 27) = W2 := ⟨_, rfl⟩
 have HD2 := zh (show Rdd W2 bd l nn bad by rw [<- hW2]; exact (h.alloc _).alloc _)
 have e1 : W2.heap[w.heap.size]? = some (.cells #[.string a, .string b, .int .i64 z, .int .i64 m, .slice o1 k1 c1, .slice o2 k2 c2, .slice o3 k3 c3] 27 (0, 0)) := by
  rw [<- hW2, Below.heap_alloc _ _ _ (by simp)]; exact Array.getElem?_push_size
 have e2 : W2.heap[w.heap.size + 1]? = some (.cells #[.string ⟨#[]⟩, .string ⟨#[]⟩, .int .i64 0, .int .i64 0, .slice none 0 0, .slice none 0 0, .slice none 0 0] 27 (0, 0)) := by
  have e : (w.alloc (Obj.cells #[.string a, .string b, .int .i64 z, .int .i64 m, .slice o1 k1 c1, .slice o2 k2 c2, .slice o3 k3 c3] 27)).heap.size = w.heap.size + 1 := by simp
  rw [<- hW2, <- e]; exact Array.getElem?_push_size
 have hn2 : (nn : Int) <= 1000000000 := by omega
 obtain ⟨o, c, h1, -⟩ := h
 obtain ⟨⟨d0, d1, d2⟩, f0, f1, f2⟩ := zav h1
 clear h1 e1 e2 hW2 HD2
 go_enter Tryz.func52, Tryz.ntmps52
 go_wp2
 refine bodyPost_ret (v := .agg #[.string a, .string b, .int .i64 z, .int .i64 m, .slice o1 k1 c1, .slice o2 k2 c2, .slice o3 k3 c3]) (by simp [results, Tryz.results52, go_sem]) rfl ?_
 exact ⟨rfl, ((HD.out.setN (nn + 1) _ (by push_cast; rfl)).alloc _).alloc _, grown_alloc (grown_alloc (grown_set _ _ _ _) _) _⟩
def zgJ (n : Nat) (acc : List ByteArray) (m : List Tq) : Option (List ByteArray × List Tq) := if isT 5 [44] m then zaE zaZ [41] n m.tail acc else if isT 5 [41] m then some (acc, m.tail) else none
theorem infoNm : (Tryz.prog.info? 9).map (fun i => (i.zero, i.size, i.bytes)) = some (some (.string ⟨#[]⟩), 1, 16) := by kernel_rfl
theorem nameP_yes {x : Tq} {m : List Tq} (hx : x.1 = 1) : zaZ (x :: m) = some (bz x.2, m) := by
 show (if x.1 = 1 then some (bz x.2, m) else none) = _
 rw [if_pos hx]
theorem nameP_no {l : List Tq} (hk : isK 1 l = false) : zaZ l = none := by
 cases l with
 | nil => rfl
 | cons x m =>
   show (if x.1 = 1 then some (bz x.2, m) else none) = none
   rw [if_neg (by simpa [isK] using hk)]
theorem zin {n : Nat} {x : Tq} {m : List Tq} {acc : List ByteArray} (hx : x.1 = 1) : zaE zaZ [41] (n + 1) (x :: m) acc = zgJ n (acc ++ [bz x.2]) m := by
 rw [zaE, nameP_yes hx]; rfl
theorem zgw {n : Nat} {l : List Tq} {acc : List ByteArray} (hk : isK 1 l = false) : zaE zaZ [41] n l acc = none := by
 cases n with
 | zero => rfl
 | succ n => rw [zaE, nameP_no hk]
def NT (T : Option (List ByteArray × List Tq)) (l : List Tq) (acc : List ByteArray) : Bool -> Prop
 | true => T = none
 | false => acc.length + l.length <= 1000000 /\ ∃ n, l.length < n /\ ((acc = [] /\ T = if isT 5 [41] l then some ([], l.tail) else zaE zaZ [41] n l []) \/ (acc ≠ [] /\ T = zgJ n acc l))
def ziC (w0 : World) (bd nn : Nat) (T : Option (List ByteArray × List Tq)) (k : Nat) (v : Value) (wr : World) : Prop := ∃ (l : List Tq) (bad : Bool) (acc : List ByteArray), k = (if bad then 0 else l.length + 1) /\ Rdd wr bd l nn bad /\ w0.grownBy wr (some bd) /\ wr.ownsRow w0.heap.size 9 1 v acc.length (acc.flatMap encN) /\ bd < w0.heap.size /\ acc.length <= 1000001 /\ NT T l acc bad
def zgx (w : World) (bd nn : Nat) (r : Option (List ByteArray × List Tq)) (e : Ending) (w' : World) : Prop := match r with
 | none => (∃ o n c, e = .returned (.slice o n c)) /\ (∃ l, Rdd w' bd l nn true) /\ w.grownBy w' (some bd)
 | some (xs, m) => (∃ o c, e = .returned (.slice o xs.length c) /\ xs.length <= c /\ za2 w' (fun b => w.heap.size <= b) o 1 (xs.map encN)) /\ Rdd w' bd m nn false /\ w.grownBy w' (some bd)
theorem nt_end {T : Option (List ByteArray × List Tq)} {l : List Tq} {acc : List ByteArray} (h : NT T l acc false) (h41 : isT 5 [41] l = true) : T = some (acc, l.tail) := by
 obtain ⟨_, n, _, ⟨rfl, h⟩ | ⟨_, h⟩⟩ := h
 ·rw [if_pos h41] at h; exact h
 ·unfold zgJ at h
  have : isT 5 [44] l = false := by
   cases l with
   | nil => rfl
   | cons x m => simp [isT] at h41 ⊢; intro _; simp [h41.2]
  rw [if_neg (by rw [this]; simp), if_pos h41] at h
  exact h
theorem zfs (bd : Nat) (l : List Tq) (nn : Nat) (w : World) (h : Rdd w bd l nn false) :
 Calls Tryz.prog 51 #[.pointer (some ⟨bd, 0, none⟩)] w (zgx w bd nn (if isT 5 [40] l then zbe zaZ [41] l.tail else none)) := by
 obtain ⟨ie, hi, hz0, hz1, hz2⟩ := info_parts infoNm
 have hfar := h.lt
 have hfew := h.few
 obtain ⟨T, hT⟩ : ∃ T, (if isT 5 [40] l then zbe zaZ [41] l.tail else none) = T := ⟨_, rfl⟩
 rw [hT]
 have HSG : ∃ (l2 : List Tq) (b2 : Bool), (Calls Tryz.prog 74 #[.pointer (some ⟨bd, 0, none⟩), .string ⟨#[40]⟩] w fun e w' => e = .returned (.tuple #[]) /\ Rdd w' bd l2 nn b2 /\ w.grownBy w' (some bd)) /\ NT T l2 [] b2 := by
  cases h40 : isT 5 [40] l with
  | true =>
    rw [if_pos h40] at hT
    refine ⟨l.tail, false, zdh bd l nn ⟨#[40]⟩ h40 w h, by simp; omega, l.tail.length + 1, by omega, .inl ⟨rfl, ?_⟩⟩
    rw [<- hT]; rfl
  | false =>
    rw [if_neg (by rw [h40]; simp)] at hT
    exact ⟨l, true, zd1 bd l nn false ⟨#[40]⟩ (.inr h40) w h, hT.symm⟩
 obtain ⟨l0, b0, hsg, hnt0⟩ := HSG
 have HSG := zh hsg
 have HNT0 := zh hnt0
 clear h hT hsg hnt0
 go_enter Tryz.func51, Tryz.ntmps51
 go_wp2_with fail
 refine HSG.out.mono ?_
 rintro e w0 ⟨rfl, hr0, hg0⟩
 have HST := zh (show ziC w bd nn T (if b0 then 0 else l0.length + 1) (.slice none 0 0) w0 from ⟨l0, b0, [], rfl, hr0, hg0, World.ownsRow_nil _ _ _ _, hfar, by simp, HNT0.out⟩)
 clear hr0 hg0
 go_wp2_with fail
 go_loopg [3] (if b0 then 0 else l0.length + 1) (fun k v wr => ziC w bd nn T k v wr)
 case atStart => exact HST.out
 case round =>
  clear HST HSG HNT0
  obtain ⟨l2, b2, acc, hkx, hr, hg, hown, _, hacc, hnt⟩ := hrel
  obtain ⟨ov, cv, hv⟩ := own_shape hown
  have hsz := hg.size
  have HR := zh hr
  have HG := zh hg
  have HO := zh hown
  have HNT := zh hnt
  obtain ⟨o, c, h1, -⟩ := hr
  obtain ⟨⟨c0, c1, c2⟩, f0, f1, f2⟩ := zav h1
  subst hv
  clear h1 hg hown hnt
  cases b2 with
  | true =>
    have HSB := zh (zd1 bd l2 nn true ⟨#[41]⟩ (.inl rfl) wr HR.out)
    have HTN := zh (show T = none from HNT.out)
    go_wp2_with fail
    refine HSB.out.mono ?_
    rintro e w2 ⟨rfl, hr2, hg2⟩
    have HE := zh (And.intro hr2 (grown_trans HG.out hg2))
    clear hr2 hg2 c0 c1 c2 f0 f1 f2
    go_wp2
    go_ret
    rw [HTN.out]
    exact ⟨⟨_, _, _, rfl⟩, ⟨_, HE.out.1⟩, HE.out.2⟩
  | false =>
    have hgk : gk = l2.length + 1 := hkx
    have HI := zh (zby bd l2 nn false 5 ⟨#[41]⟩ wr HR.out)
    cases h41 : isT 5 [41] l2 with
    | true =>
      have HI2 := zh (show Calls Tryz.prog 23 #[.pointer (some ⟨bd, 0, none⟩), .int .i64 (5 : Nat), .string ⟨#[41]⟩] wr fun e w' => e = .returned (.bool true) /\ wr = w' by
       have h := HI.out; rw [show isT 5 (⟨#[41]⟩ : ByteArray).data.toList l2 = true from h41] at h; exact h)
      have HSO := zh (zdh bd l2 nn ⟨#[41]⟩ h41 wr HR.out)
      have HTN := zh (nt_end HNT.out h41)
      clear h41
      go_wp2_with fail
      refine HI2.out.mono ?_
      rintro e w1 ⟨rfl, rfl⟩
      go_wp2_with fail
      refine HSO.out.mono ?_
      rintro e w2 ⟨rfl, hr2, hg2⟩
      have HE := zh (And.intro (own_past HO.out hg2 hfar) (And.intro hr2 (grown_trans HG.out hg2)))
      clear hr2 hg2 c0 c1 c2 f0 f1 f2
      go_wp2
      go_ret
      rw [HTN.out]
      exact ⟨⟨_, _, rfl, zhU HE.out.1, zdy encN (fun _ => rfl) HE.out.1 (fun _ h => h)⟩, HE.out.2.1, HE.out.2.2⟩
    | false =>
      have HI2 := zh (show Calls Tryz.prog 23 #[.pointer (some ⟨bd, 0, none⟩), .int .i64 (5 : Nat), .string ⟨#[41]⟩] wr fun e w' => e = .returned (.bool false) /\ wr = w' by
       have h := HI.out; rw [show isT 5 (⟨#[41]⟩ : ByteArray).data.toList l2 = false from h41] at h; exact h)
      obtain ⟨hfw, n, hn, hTT⟩ : acc.length + l2.length <= 1000000 /\ ∃ n, l2.length < n /\ ((acc = [] /\ T = if isT 5 [41] l2 then some ([], l2.tail) else zaE zaZ [41] n l2 []) \/ (acc ≠ [] /\ T = zgJ n acc l2)) := HNT.out
      rcases hTT with ⟨rfl, hTT⟩ | ⟨hne, hTT⟩
      ·have HGD := zh (show ∃ n, l2.length < n /\ T = zaE zaZ [41] n l2 [] by rw [if_neg (by rw [h41]; simp)] at hTT; exact ⟨n, hn, hTT⟩)
       clear h41 hTT hn
       go_wp2_with fail
       refine HI2.out.mono ?_
       rintro e w1 ⟨rfl, rfl⟩
       clear c0 c1 c2 f0 f1 f2
       cases hk : isK 1 l2 with
       | true =>
         obtain ⟨x, m, hxm, hx⟩ := zaN hk
         have hl3 : (x :: m).length <= l2.length := by rw [<- hxm]; exact Nat.le_refl _
         rw [hxm] at HR HGD
         clear hk
         have HTK := zh (zfM bd x m nn 1 hx wr HR.out)
         obtain ⟨tx, htx⟩ : ∃ tx : ByteArray, bz x.2 = tx := ⟨_, rfl⟩
         rw [show (⟨x.2.toArray⟩ : ByteArray) = tx from htx] at HTK
         have HT2 := zh (show ∃ n, m.length < n /\ T = zgJ n (([] : List ByteArray) ++ [tx]) m by
          obtain ⟨n, hn, hT⟩ := HGD.out
          obtain ⟨n, rfl⟩ : ∃ k, n = k + 1 := ⟨n - 1, by omega⟩
          rw [zin hx, htx] at hT
          exact ⟨n, by simp at hn; omega, hT⟩)
         have hml : m.length + 1 <= l2.length := by simp at hl3; omega
         clear htx hx
         go_wp2_with fail
         refine HTK.out.mono ?_
         rintro e w2 ⟨rfl, hr2, hg2⟩
         have HR2 := zh hr2
         have HG2 := zh (grown_trans HG.out hg2)
         have HO2 := zh ((own_past HO.out hg2 hfar).alloc (Obj.cells #[.string tx] 9))
         have hsz2 := hg2.size
         clear hr2 hg2
         go_wp2_with (at_builtin; go_must (refine wpList_append_own _ rfl _ _ 23 rfl w.heap.size 9 ie (.string ⟨#[]⟩) 1 16 Tryz.underlying23 hi hz0 hz1 hz2 rfl (by decide) _ _ _ rfl HO2.out ⟨w2.heap.size, 0, none⟩ 1 1 [.string tx] rfl rfl (cell_1k _ _ _ _ rfl) (zdG _) (by unfold maxLen; omega) (by omega) (by simp; omega) ?_); intro v' w5 hown' hgrow' hnil'; have HO5 := zh hown'; have HG5 := zh (grown_own (grown_alloc HG2.out (Obj.cells #[.string tx] 9)) hgrow' (fun k e => (HO2.out.lt k e).1)); have HR5 := zh ((HR2.out.alloc (Obj.cells #[.string tx] 9)).keep fun k hk => hgrow'.block k (Nat.lt_of_le_of_lt hk (HR2.out.alloc (Obj.cells #[.string tx] 9)).lt) (fun e => by have := (HO2.out.lt k e.symm).1; omega)); clear hown' hgrow' hnil')
         have HO6 := zh (show w5.ownsRow w.heap.size 9 1 v' (([] : List ByteArray) ++ [tx]).length ((([] : List ByteArray) ++ [tx]).flatMap encN) by
          rw [List.length_append, List.flatMap_append]; exact HO5.out)
         clear HO5
         go_wp2
         go_roundg (m.length + 1)
         case measure => omega
         case rel =>
          obtain ⟨n, hn, hT⟩ := HT2.out
          exact ⟨m, false, ([] : List ByteArray) ++ [tx], rfl, HR5.out, HG5.out, HO6.out, hfar, by rw [List.length_append]; simp <;> omega, by rw [List.length_append]; simp <;> omega, n, hn, .inr ⟨by simp, hT⟩⟩
       | false =>
         have HTK := zh (zel bd l2 nn false 1 (.inr hk) wr HR.out)
         have HT2 := zh (show T = none by
          obtain ⟨n, hn, hT⟩ := HGD.out
          rw [hT, zgw hk])
         obtain ⟨tx, htx⟩ : ∃ tx : ByteArray, (⟨#[]⟩ : ByteArray) = tx := ⟨_, rfl⟩
         rw [htx] at HTK
         clear htx hk
         go_wp2_with fail
         refine HTK.out.mono ?_
         rintro e w2 ⟨rfl, hr2, hg2⟩
         have HR2 := zh hr2
         have HG2 := zh (grown_trans HG.out hg2)
         have HO2 := zh ((own_past HO.out hg2 hfar).alloc (Obj.cells #[.string tx] 9))
         have hsz2 := hg2.size
         clear hr2 hg2
         go_wp2_with (at_builtin; go_must (refine wpList_append_own _ rfl _ _ 23 rfl w.heap.size 9 ie (.string ⟨#[]⟩) 1 16 Tryz.underlying23 hi hz0 hz1 hz2 rfl (by decide) _ _ _ rfl HO2.out ⟨w2.heap.size, 0, none⟩ 1 1 [.string tx] rfl rfl (cell_1k _ _ _ _ rfl) (zdG _) (by unfold maxLen; omega) (by omega) (by simp; omega) ?_); intro v' w5 hown' hgrow' hnil'; have HO5 := zh hown'; have HG5 := zh (grown_own (grown_alloc HG2.out (Obj.cells #[.string tx] 9)) hgrow' (fun k e => (HO2.out.lt k e).1)); have HR5 := zh ((HR2.out.alloc (Obj.cells #[.string tx] 9)).keep fun k hk => hgrow'.block k (Nat.lt_of_le_of_lt hk (HR2.out.alloc (Obj.cells #[.string tx] 9)).lt) (fun e => by have := (HO2.out.lt k e.symm).1; omega)); clear hown' hgrow' hnil')
         have HO6 := zh (show w5.ownsRow w.heap.size 9 1 v' (([] : List ByteArray) ++ [tx]).length ((([] : List ByteArray) ++ [tx]).flatMap encN) by
          rw [List.length_append, List.flatMap_append]; exact HO5.out)
         clear HO5
         go_wp2
         go_roundg 0
         case measure => omega
         case rel => exact ⟨l2, true, ([] : List ByteArray) ++ [tx], rfl, HR5.out, HG5.out, HO6.out, hfar, by rw [List.length_append]; simp <;> omega, HT2.out⟩
      ·have hpos : 0 < acc.length := List.length_pos_iff.2 hne
       have i1 : (acc.length : Int) > 0 := by omega
       unfold zgJ at hTT
       cases h44 : isT 5 [44] l2 with
       | true =>
         rw [if_pos h44] at hTT
         have HGD := zh (show ∃ n, l2.tail.length < n /\ T = zaE zaZ [41] n l2.tail acc from ⟨n, by simp; omega, hTT⟩)
         have HSO := zh (zdh bd l2 nn ⟨#[44]⟩ h44 wr HR.out)
         have htl := zaw h44
         obtain ⟨l3, hl3e⟩ : ∃ l3, l2.tail = l3 := ⟨_, rfl⟩
         rw [hl3e] at HGD HSO htl
         have hl3l : l3.length <= l2.length := by omega
         clear h41 h44 hTT hn hne hl3e
         go_wp2_with fail
         refine HI2.out.mono ?_
         rintro e w1 ⟨rfl, rfl⟩
         go_wp2_with fail
         refine HSO.out.mono ?_
         rintro e w1 ⟨rfl, hr1, hg1⟩
         have HR1 := zh hr1
         have HG1 := zh (grown_trans HG.out hg1)
         have HO1 := zh (own_past HO.out hg1 hfar)
         have hsz1 := hg1.size
         clear hr1 hg1 c0 c1 c2 f0 f1 f2
         cases hk : isK 1 l3 with
         | true =>
           obtain ⟨x, m, hxm, hx⟩ := zaN hk
           have hl3 : (x :: m).length <= l2.length := by rw [<- hxm]; exact hl3l
           rw [hxm] at HR1 HGD
           clear hk
           have HTK := zh (zfM bd x m nn 1 hx w1 HR1.out)
           obtain ⟨tx, htx⟩ : ∃ tx : ByteArray, bz x.2 = tx := ⟨_, rfl⟩
           rw [show (⟨x.2.toArray⟩ : ByteArray) = tx from htx] at HTK
           have HT2 := zh (show ∃ n, m.length < n /\ T = zgJ n (acc ++ [tx]) m by
            obtain ⟨n, hn, hT⟩ := HGD.out
            obtain ⟨n, rfl⟩ : ∃ k, n = k + 1 := ⟨n - 1, by omega⟩
            rw [zin hx, htx] at hT
            exact ⟨n, by simp at hn; omega, hT⟩)
           have hml : m.length + 1 <= l2.length := by simp at hl3; omega
           clear htx hx
           go_wp2_with fail
           refine HTK.out.mono ?_
           rintro e w2 ⟨rfl, hr2, hg2⟩
           have HR2 := zh hr2
           have HG2 := zh (grown_trans HG1.out hg2)
           have HO2 := zh ((own_past HO1.out hg2 hfar).alloc (Obj.cells #[.string tx] 9))
           have hsz2 := hg2.size
           clear hr2 hg2
           go_wp2_with (at_builtin; go_must (refine wpList_append_own _ rfl _ _ 23 rfl w.heap.size 9 ie (.string ⟨#[]⟩) 1 16 Tryz.underlying23 hi hz0 hz1 hz2 rfl (by decide) _ _ _ rfl HO2.out ⟨w2.heap.size, 0, none⟩ 1 1 [.string tx] rfl rfl (cell_1k _ _ _ _ rfl) (zdG _) (by unfold maxLen; omega) (by omega) (by simp; omega) ?_); intro v' w5 hown' hgrow' hnil'; have HO5 := zh hown'; have HG5 := zh (grown_own (grown_alloc HG2.out (Obj.cells #[.string tx] 9)) hgrow' (fun k e => (HO2.out.lt k e).1)); have HR5 := zh ((HR2.out.alloc (Obj.cells #[.string tx] 9)).keep fun k hk => hgrow'.block k (Nat.lt_of_le_of_lt hk (HR2.out.alloc (Obj.cells #[.string tx] 9)).lt) (fun e => by have := (HO2.out.lt k e.symm).1; omega)); clear hown' hgrow' hnil')
           have HO6 := zh (show w5.ownsRow w.heap.size 9 1 v' (acc ++ [tx]).length ((acc ++ [tx]).flatMap encN) by
            rw [List.length_append, List.flatMap_append]; exact HO5.out)
           clear HO5
           go_wp2
           go_roundg (m.length + 1)
           case measure => omega
           case rel =>
            obtain ⟨n, hn, hT⟩ := HT2.out
            exact ⟨m, false, acc ++ [tx], rfl, HR5.out, HG5.out, HO6.out, hfar, by rw [List.length_append]; simp <;> omega, by rw [List.length_append]; simp <;> omega, n, hn, .inr ⟨by simp, hT⟩⟩
         | false =>
           have HTK := zh (zel bd l3 nn false 1 (.inr hk) w1 HR1.out)
           have HT2 := zh (show T = none by
            obtain ⟨n, hn, hT⟩ := HGD.out
            rw [hT, zgw hk])
           obtain ⟨tx, htx⟩ : ∃ tx : ByteArray, (⟨#[]⟩ : ByteArray) = tx := ⟨_, rfl⟩
           rw [htx] at HTK
           clear htx hk
           go_wp2_with fail
           refine HTK.out.mono ?_
           rintro e w2 ⟨rfl, hr2, hg2⟩
           have HR2 := zh hr2
           have HG2 := zh (grown_trans HG1.out hg2)
           have HO2 := zh ((own_past HO1.out hg2 hfar).alloc (Obj.cells #[.string tx] 9))
           have hsz2 := hg2.size
           clear hr2 hg2
           go_wp2_with (at_builtin; go_must (refine wpList_append_own _ rfl _ _ 23 rfl w.heap.size 9 ie (.string ⟨#[]⟩) 1 16 Tryz.underlying23 hi hz0 hz1 hz2 rfl (by decide) _ _ _ rfl HO2.out ⟨w2.heap.size, 0, none⟩ 1 1 [.string tx] rfl rfl (cell_1k _ _ _ _ rfl) (zdG _) (by unfold maxLen; omega) (by omega) (by simp; omega) ?_); intro v' w5 hown' hgrow' hnil'; have HO5 := zh hown'; have HG5 := zh (grown_own (grown_alloc HG2.out (Obj.cells #[.string tx] 9)) hgrow' (fun k e => (HO2.out.lt k e).1)); have HR5 := zh ((HR2.out.alloc (Obj.cells #[.string tx] 9)).keep fun k hk => hgrow'.block k (Nat.lt_of_le_of_lt hk (HR2.out.alloc (Obj.cells #[.string tx] 9)).lt) (fun e => by have := (HO2.out.lt k e.symm).1; omega)); clear hown' hgrow' hnil')
           have HO6 := zh (show w5.ownsRow w.heap.size 9 1 v' (acc ++ [tx]).length ((acc ++ [tx]).flatMap encN) by
            rw [List.length_append, List.flatMap_append]; exact HO5.out)
           clear HO5
           go_wp2
           go_roundg 0
           case measure => omega
           case rel => exact ⟨l3, true, acc ++ [tx], rfl, HR5.out, HG5.out, HO6.out, hfar, by rw [List.length_append]; simp <;> omega, HT2.out⟩
       | false =>
         have HTN := zh (show T = none by
          rw [if_neg (by rw [h44]; simp), if_neg (by rw [h41]; simp)] at hTT; exact hTT)
         have HSB := zh (zd1 bd l2 nn false ⟨#[44]⟩ (.inr h44) wr HR.out)
         clear h41 h44 hTT hn hne
         go_wp2_with fail
         refine HI2.out.mono ?_
         rintro e w1 ⟨rfl, rfl⟩
         go_wp2_with fail
         refine HSB.out.mono ?_
         rintro e w1 ⟨rfl, hr1, hg1⟩
         have HR1 := zh hr1
         have HG1 := zh (grown_trans HG.out hg1)
         have HO1 := zh (own_past HO.out hg1 hfar)
         have hsz1 := hg1.size
         clear hr1 hg1 c0 c1 c2 f0 f1 f2
         have HTK := zh (zel bd l2 nn true 1 (.inl rfl) w1 HR1.out)
         obtain ⟨tx, htx⟩ : ∃ tx : ByteArray, (⟨#[]⟩ : ByteArray) = tx := ⟨_, rfl⟩
         rw [htx] at HTK
         clear htx
         go_wp2_with fail
         refine HTK.out.mono ?_
         rintro e w2 ⟨rfl, hr2, hg2⟩
         have HR2 := zh hr2
         have HG2 := zh (grown_trans HG1.out hg2)
         have HO2 := zh ((own_past HO1.out hg2 hfar).alloc (Obj.cells #[.string tx] 9))
         have hsz2 := hg2.size
         clear hr2 hg2
         go_wp2_with (at_builtin; go_must (refine wpList_append_own _ rfl _ _ 23 rfl w.heap.size 9 ie (.string ⟨#[]⟩) 1 16 Tryz.underlying23 hi hz0 hz1 hz2 rfl (by decide) _ _ _ rfl HO2.out ⟨w2.heap.size, 0, none⟩ 1 1 [.string tx] rfl rfl (cell_1k _ _ _ _ rfl) (zdG _) (by unfold maxLen; omega) (by omega) (by simp; omega) ?_); intro v' w5 hown' hgrow' hnil'; have HO5 := zh hown'; have HG5 := zh (grown_own (grown_alloc HG2.out (Obj.cells #[.string tx] 9)) hgrow' (fun k e => (HO2.out.lt k e).1)); have HR5 := zh ((HR2.out.alloc (Obj.cells #[.string tx] 9)).keep fun k hk => hgrow'.block k (Nat.lt_of_le_of_lt hk (HR2.out.alloc (Obj.cells #[.string tx] 9)).lt) (fun e => by have := (HO2.out.lt k e.symm).1; omega)); clear hown' hgrow' hnil')
         have HO6 := zh (show w5.ownsRow w.heap.size 9 1 v' (acc ++ [tx]).length ((acc ++ [tx]).flatMap encN) by
          rw [List.length_append, List.flatMap_append]; exact HO5.out)
         clear HO5
         go_wp2
         go_roundg 0
         case measure => omega
         case rel => exact ⟨l2, true, acc ++ [tx], rfl, HR5.out, HG5.out, HO6.out, hfar, by rw [List.length_append]; simp <;> omega, HTN.out⟩
end Go.Proofs.YtbcemjhaecelnaaGreatDoor.Drd
end

section
namespace Go.Proofs.YtbcemjhaecelnaaGreatDoor.Drd
open Go.RowKit Go.Lib
open Go.Proofs.YtbcemjhaecelnaaGreatDoor.Par
open Go.Proofs.YtbcemjhaecelnaaGreatDoor.Sto
def badK (k : Nat) (bad : Bool) (l : List Tq) : Bool := bad || !isK k l
def resK (k : Nat) (bad : Bool) (l : List Tq) : List Tq := if badK k bad l then l else l.tail
def zd2 : List Tq -> List UInt8
 | [] => []
 | x :: _ => x.2
def txtK (k : Nat) (bad : Bool) (l : List Tq) : List UInt8 := if badK k bad l then [] else zd2 l
def badS (t : List UInt8) (bad : Bool) (l : List Tq) : Bool := bad || !isT 5 t l
def resS (t : List UInt8) (bad : Bool) (l : List Tq) : List Tq := if badS t bad l then l else l.tail
theorem zaX (k : Nat) (bad : Bool) (l : List Tq) : (resK k bad l).length <= l.length := by
 unfold resK; split <;> simp
theorem zdi (t : List UInt8) (bad : Bool) (l : List Tq) : (resS t bad l).length <= l.length := by
 unfold resS; split <;> simp
theorem take_any (bd : Nat) (l : List Tq) (nn : Nat) (bad : Bool) (k : Nat) (w : World) (h : Rdd w bd l nn bad) :
 Calls Tryz.prog 24 #[.pointer (some ⟨bd, 0, none⟩), .int .i64 (k : Nat)] w fun e w' => e = .returned (.string (bz (txtK k bad l))) /\ Rdd w' bd (resK k bad l) nn (badK k bad l) /\ w.grownBy w' (some bd) := by
 cases hb : badK k bad l with
 | true =>
   have hr : resK k bad l = l := by unfold resK; rw [if_pos hb]
   have ht : txtK k bad l = [] := by unfold txtK; rw [if_pos hb]
   rw [hr, ht]
   refine zel bd l nn bad k ?_ w h
   unfold badK at hb
   cases bad with
   | true => exact .inl rfl
   | false => right; simpa using hb
 | false =>
   have hr : resK k bad l = l.tail := by unfold resK; rw [if_neg (by rw [hb]; simp)]
   have ht : txtK k bad l = zd2 l := by unfold txtK; rw [if_neg (by rw [hb]; simp)]
   rw [hr, ht]
   unfold badK at hb
   obtain ⟨rfl, hk⟩ : bad = false /\ isK k l = true := by
    cases bad <;> simp at hb ⊢; exact hb
   obtain ⟨x, m, rfl, hx⟩ := zaN hk
   exact zfM bd x m nn k hx w h
theorem sign_any (bd : Nat) (l : List Tq) (nn : Nat) (bad : Bool) (tx : ByteArray) (w : World) (h : Rdd w bd l nn bad) :
 Calls Tryz.prog 74 #[.pointer (some ⟨bd, 0, none⟩), .string tx] w fun e w' => e = .returned (.tuple #[]) /\ Rdd w' bd (resS tx.data.toList bad l) nn (badS tx.data.toList bad l) /\ w.grownBy w' (some bd) := by
 cases hb : badS tx.data.toList bad l with
 | true =>
   have hr : resS tx.data.toList bad l = l := by unfold resS; rw [if_pos hb]
   rw [hr]
   refine zd1 bd l nn bad tx ?_ w h
   unfold badS at hb
   cases bad with
   | true => exact .inl rfl
   | false => right; simpa using hb
 | false =>
   have hr : resS tx.data.toList bad l = l.tail := by unfold resS; rw [if_neg (by rw [hb]; simp)]
   rw [hr]
   unfold badS at hb
   obtain ⟨rfl, hk⟩ : bad = false /\ isT 5 tx.data.toList l = true := by
    cases bad <;> simp at hb ⊢; exact hb
   exact zdh bd l nn tx hk w h
theorem zd3 (l : List Tq) (hok : ∀ s ∈ l, TokW s) (k : Nat) (hk : k = 2 \/ k = 4) (bad : Bool) (w : World) :
 Calls Tryz.prog 25 #[.string (bz (txtK k bad l))] w fun e w' => e = .returned (.int .i64 (valL (txtK k bad l) : Nat)) /\ w = w' := by
 cases hb : badK k bad l with
 | true =>
   have ht : txtK k bad l = [] := by unfold txtK; rw [if_pos hb]
   rw [ht]
   exact zfr [] (by simp) (by decide) (by decide) w
 | false =>
   have ht : txtK k bad l = zd2 l := by unfold txtK; rw [if_neg (by rw [hb]; simp)]
   rw [ht]
   unfold badK at hb
   obtain ⟨rfl, hkk⟩ : bad = false /\ isK k l = true := by
    cases bad <;> simp at hb ⊢; exact hb
   obtain ⟨x, m, rfl, hx⟩ := zaN hkk
   obtain ⟨d1, d2, d3⟩ := zhR (hok x (by simp)).toTokOk (by rw [hx]; exact hk)
   exact zfr x.2 d1 d2 d3 w
def ziI (n : Nat) (acc : List Mat) (m : List Tq) : Option (List Mat × List Tq) := if isT 5 [44] m then zaE matP [125] n m.tail acc else if isT 5 [125] m then some (acc, m.tail) else none
def MT (T : Option (List Mat × List Tq)) (l : List Tq) (acc : List Mat) : Bool -> Prop
 | true => T = none
 | false => acc.length + l.length <= 1000000 /\ ∃ n, l.length < n /\ ((acc = [] /\ T = if isT 5 [125] l then some ([], l.tail) else zaE matP [125] n l []) \/ (acc ≠ [] /\ T = ziI n acc l))
theorem mt_end {T : Option (List Mat × List Tq)} {l : List Tq} {acc : List Mat} (h : MT T l acc false) (h41 : isT 5 [125] l = true) : T = some (acc, l.tail) := by
 obtain ⟨_, n, _, ⟨rfl, h⟩ | ⟨_, h⟩⟩ := h
 ·rw [if_pos h41] at h; exact h
 ·unfold ziI at h
  have : isT 5 [44] l = false := by
   cases l with
   | nil => rfl
   | cons x m => simp [isT] at h41 ⊢; intro _; simp [h41.2]
  rw [if_neg (by rw [this]; simp), if_pos h41] at h
  exact h
def MG (T : Option (List Mat × List Tq)) (l : List Tq) (acc : List Mat) : Bool -> Prop
 | true => T = none
 | false => acc.length + l.length <= 1000000 /\ ∃ n, l.length < n /\ T = zaE matP [125] n l acc
theorem mt_first {T : Option (List Mat × List Tq)} {l : List Tq} (h : MT T l [] false) (h41 : isT 5 [125] l = false) : MG T l [] false := by
 obtain ⟨h0, n, hn, ⟨_, h⟩ | ⟨h, _⟩⟩ := h
 ·rw [if_neg (by rw [h41]; simp)] at h; exact ⟨h0, n, hn, h⟩
 ·exact absurd rfl h
theorem mt_more {T : Option (List Mat × List Tq)} {l : List Tq} {acc : List Mat} (hne : acc ≠ []) (h : MT T l acc false) (h41 : isT 5 [125] l = false) : MG T (resS [44] false l) acc (badS [44] false l) := by
 obtain ⟨h0, n, hn, ⟨h, _⟩ | ⟨_, h⟩⟩ := h
 ·exact absurd h hne
 ·unfold ziI at h
  rw [if_neg (c := isT 5 [125] l = true) (by rw [h41]; simp)] at h
  unfold resS badS
  cases h44 : isT 5 [44] l with
  | true =>
    rw [if_pos h44] at h
    have hl := zaw h44
    simp only [Bool.not_true, Bool.or_self, Bool.false_eq_true, if_false]
    exact ⟨by omega, n, by omega, h⟩
  | false =>
    rw [if_neg (by rw [h44]; simp)] at h
    simpa [MG] using h
def zdL (b : Bool) (l : List Tq) : List UInt8 := txtK 1 b l
def mOp (b : Bool) (l : List Tq) : List UInt8 := txtK 5 (badK 1 b l) (resK 1 b l)
def zcF (b : Bool) (l : List Tq) : Bool := badK 5 (badK 1 b l) (resK 1 b l)
def zbG (b : Bool) (l : List Tq) : List Tq := resK 5 (badK 1 b l) (resK 1 b l)
def zaQ (b : Bool) (l : List Tq) : Bool := zcF b l || decide (opS (mOp b l) = 0)
def mVal (b : Bool) (l : List Tq) : List UInt8 := txtK 3 (zaQ b l) (zbG b l)
def mBad (b : Bool) (l : List Tq) : Bool := badK 3 (zaQ b l) (zbG b l)
def mRes (b : Bool) (l : List Tq) : List Tq := resK 3 (zaQ b l) (zbG b l)
theorem m_bad (l : List Tq) : mBad true l = true := by
 simp [mBad, zaQ, zcF, badK]
theorem m_ok {b : Bool} {l : List Tq} (h : mBad b l = false) : b = false /\ matP l = some ((bz (zdL b l), ((opS (mOp b l) : Nat) : Int), bz (mVal b l)), mRes b l) /\ (mRes b l).length < l.length := by
 cases b with
 | true => rw [m_bad] at h; cases h
 | false =>
 refine ⟨rfl, ?_⟩
 rcases l with _ | ⟨x, l⟩
 ·simp [mBad, zaQ, zcF, badK, isK] at h
 by_cases hx : x.1 = 1
 rotate_left
 ·simp [mBad, zaQ, zcF, badK, isK, hx] at h
 rcases l with _ | ⟨y, l⟩
 ·simp [mBad, zaQ, zcF, badK, resK, isK, hx] at h
 by_cases hy : y.1 = 5
 rotate_left
 ·simp [mBad, zaQ, zcF, badK, resK, isK, hx, hy] at h
 by_cases ho : opS y.2 = 0
 ·simp [mBad, zaQ, zcF, mOp, txtK, zd2, badK, resK, isK, hx, hy, ho] at h
 rcases l with _ | ⟨z, l⟩
 ·simp [mBad, zaQ, zcF, zbG, mOp, txtK, zd2, badK, resK, isK, hx, hy, ho] at h
 by_cases hz : z.1 = 3
 rotate_left
 ·simp [mBad, zaQ, zcF, zbG, mOp, txtK, zd2, badK, resK, isK, hx, hy, ho, hz] at h
 refine ⟨?_, ?_⟩
 ·simp [matP, zaQ, zcF, mRes, zbG, zdL, mOp, mVal, txtK, zd2, badK, resK, isK, hx, hy, ho, hz]
 ·simp [zaQ, zcF, mRes, zbG, mOp, txtK, zd2, badK, resK, isK, hx, hy, ho, hz]; omega
theorem m_no {l : List Tq} (h : mBad false l = true) : matP l = none := by
 rcases l with _ | ⟨x, l⟩
 ·rfl
 rcases l with _ | ⟨y, l⟩
 ·rfl
 rcases l with _ | ⟨z, l⟩
 ·rfl
 show (if x.1 = 1 /\ y.1 = 5 /\ opS y.2 ≠ 0 /\ z.1 = 3 then some ((bz x.2, (opS y.2 : Int), bz z.2), l) else none) = none
 rw [if_neg]
 rintro ⟨hx, hy, ho, hz⟩
 simp [mBad, zaQ, zcF, zbG, mOp, txtK, zd2, badK, resK, isK, hx, hy, ho, hz] at h
theorem zd4 {T : Option (List Mat × List Tq)} {l : List Tq} {acc : List Mat} {b : Bool} (h : MG T l acc b) :
 MT T (mRes b l) (acc ++ [(bz (zdL b l), ((opS (mOp b l) : Nat) : Int), bz (mVal b l))]) (mBad b l) := by
 cases hm : mBad b l with
 | true =>
   cases b with
   | true => exact h
   | false =>
     obtain ⟨_, n, hn, h⟩ := h
     obtain ⟨n, rfl⟩ : ∃ k, n = k + 1 := ⟨n - 1, by omega⟩
     rw [zaE, m_no hm] at h
     exact h
 | false =>
   obtain ⟨rfl, hp, hl⟩ := m_ok hm
   obtain ⟨h0, n, hn, h⟩ := h
   obtain ⟨n, rfl⟩ : ∃ k, n = k + 1 := ⟨n - 1, by omega⟩
   rw [zaE, hp] at h
   exact ⟨by rw [List.length_append]; simp; omega, n, by omega, .inr ⟨by simp, h⟩⟩
end Go.Proofs.YtbcemjhaecelnaaGreatDoor.Drd
end

section
namespace Go.Proofs.YtbcemjhaecelnaaGreatDoor.Drd
open Go.RowKit Go.Lib
open Go.Proofs.YtbcemjhaecelnaaGreatDoor.Par
open Go.Proofs.YtbcemjhaecelnaaGreatDoor.Sto
def wHas (b : Bool) (l : List Tq) : Bool := !b && isT 5 [91] l
def wBad (b : Bool) (l : List Tq) : Bool := if wHas b l then badS [93] (badK 4 (badS [91] b l) (resS [91] b l)) (resK 4 (badS [91] b l) (resS [91] b l)) else b
def wRes (b : Bool) (l : List Tq) : List Tq := if wHas b l then resS [93] (badK 4 (badS [91] b l) (resS [91] b l)) (resK 4 (badS [91] b l) (resS [91] b l)) else l
def wN (b : Bool) (l : List Tq) : Nat := if wHas b l then valL (txtK 4 (badS [91] b l) (resS [91] b l)) else 0
theorem zen {k : Nat} {t : List UInt8} {l : List Tq} (h : isT k t l = true) : ∃ x m, l = x :: m /\ x.1 = k /\ x.2 = t := by
 cases l with
 | nil => simp [isT] at h
 | cons x m => exact ⟨x, m, rfl, by simpa [isT] using h⟩
theorem w_ok {b : Bool} {l : List Tq} (h : wBad b l = false) : b = false /\ za4 l = some (wN b l, wRes b l) := by
 cases b with
 | true => cases h
 | false =>
 refine ⟨rfl, ?_⟩
 cases h91 : isT 5 [91] l with
 | false => simp [za4, wN, wRes, wHas, h91]
 | true =>
   rcases l with _ | ⟨x, l⟩
   ·simp [isT] at h91
   rcases l with _ | ⟨y, l⟩
   ·simp [wBad, wHas, h91, badS, badK, resS, isK] at h
   by_cases hy : y.1 = 4
   rotate_left
   ·simp [wBad, wHas, h91, badS, badK, resS, isK, hy] at h
   cases h93 : isT 5 [93] l with
   | false => simp [wBad, wHas, h91, badS, badK, resS, resK, isK, hy, h93] at h
   | true => simp [za4, wN, wRes, wHas, h91, badS, badK, resS, resK, txtK, zd2, isK, hy, h93, numP]
theorem w_no {l : List Tq} (h : wBad false l = true) : za4 l = none := by
 cases h91 : isT 5 [91] l with
 | false => simp [wBad, wHas, h91] at h
 | true =>
   rcases l with _ | ⟨x, l⟩
   ·simp [isT] at h91
   rcases l with _ | ⟨y, l⟩
   ·simp [za4, h91, numP]
   by_cases hy : y.1 = 4
   rotate_left
   ·simp [za4, h91, numP, hy]
   cases h93 : isT 5 [93] l with
   | true => simp [wBad, wHas, h91, badS, badK, resS, resK, isK, hy, h93] at h
   | false => simp [za4, h91, numP, hy, h93]
def zdU (l : List Tq) : Bool := match l with
 | [] => false
 | x :: _ => x.1 == 1 && !ownB x.2
def selT (l : List Tq) : List UInt8 := if zdU l then zd2 l else []
def selR (l : List Tq) : List Tq := if zdU l then l.tail else l
def selD (l : List Tq) : Option (Ex × List Tq) := selP (selT l) (!(selT l).isEmpty) (selR l)
theorem selR_le (l : List Tq) : (selR l).length <= l.length := by
 unfold selR; split <;> simp
def DRes (w : World) (bd nn : Nat) (l : List Tq) (r : Option (Ex × List Tq)) (e : Ending) (w' : World) : Prop := match r with
 | none => ∃ cs, e = .returned (.agg cs.toArray) /\ Raw cs /\ (∃ (l' : List Tq) (nn' : Nat), Rdd w' bd l' nn' true /\ nn' + l'.length <= nn + l.length + 1) /\ w.grownBy w' (some bd)
 | some (x, m) => ∃ cs, e = .returned (.agg cs.toArray) /\ Nod w' (fun b => w.heap.size <= b) cs x /\ Rdd w' bd m (nn + countE x) false /\ w.grownBy w' (some bd)
end Go.Proofs.YtbcemjhaecelnaaGreatDoor.Drd
end

section
namespace Go.Proofs.YtbcemjhaecelnaaGreatDoor.Drd
open Go.RowKit Go.Lib
open Go.Proofs.YtbcemjhaecelnaaGreatDoor.Par
open Go.Proofs.YtbcemjhaecelnaaGreatDoor.Sto
structure SelS (w0 w : World) (bd nn : Nat) (l : List Tq) (b : Bool) (tx : ByteArray) (z : Nat) (v : Value) (acc : List Mat) : Prop where
 rd : Rdd w bd l nn b
 res : Box7 w w0.heap.size (.string ⟨#[]⟩) (.string ⟨#[]⟩) (.int .i64 0) (.int .i64 0) (.slice none 0 0) (.slice none 0 0) (.slice none 0 0)
 box : Box7 w (w0.heap.size + 1) (.string ⟨#[115, 101, 108]⟩) (.string tx) (.int .i64 (z : Nat)) (.int .i64 0) (.slice none 0 0) v (.slice none 0 0)
 own : w.ownsRow (w0.heap.size + 2) 40 3 v acc.length (acc.flatMap encM)
 grow : w0.grownBy w (some bd)
 far : bd < w0.heap.size
 two : w0.heap.size + 2 <= w.heap.size
 few : acc.length <= 1000001
 ok : ∀ x ∈ acc, x.1.size <= 1000000 /\ x.2.2.size <= 1000000
theorem SelS.call {w0 w w' : World} {bd nn : Nat} {l l' : List Tq} {b b' : Bool} {tx : ByteArray} {z : Nat} {v : Value} {acc : List Mat} (h : SelS w0 w bd nn l b tx z v acc) (hr : Rdd w' bd l' nn b') (hg : w.grownBy w' (some bd)) : SelS w0 w' bd nn l' b' tx z v acc :=
 have hf := h.far
 ⟨hr, zaa h.res hg (by omega), zaa h.box hg (by omega), own_past h.own hg (by omega), grown_trans h.grow hg, hf, Nat.le_trans h.two hg.size, h.few, h.ok⟩
theorem SelS.bad {w0 w : World} {bd nn : Nat} {l : List Tq} {b : Bool} {tx : ByteArray} {z : Nat} {v : Value} {acc : List Mat} (h : SelS w0 w bd nn l b tx z v acc) (b' : Bool) : SelS w0 (w.setCell ⟨bd, 2, none⟩ (.bool b')) bd nn l b' tx z v acc :=
 h.call (h.rd.setBad b') (grown_set _ _ _ _)
theorem SelS.text {w0 w : World} {bd nn : Nat} {l : List Tq} {b : Bool} {tx : ByteArray} {z : Nat} {v : Value} {acc : List Mat} (h : SelS w0 w bd nn l b tx z v acc) (tx' : ByteArray) : SelS w0 (w.setCell ⟨w0.heap.size + 1, 1, none⟩ (.string tx')) bd nn l b tx' z v acc := by
 have hf := h.far
 have hb := h.box
 unfold Box7 at hb
 exact ⟨h.rd.keep fun k hk => Below.heap_setCell _ _ _ _ (by show k ≠ w0.heap.size + 1; omega), (Below.heap_setCell _ _ _ _ (by show w0.heap.size ≠ w0.heap.size + 1; omega)).trans h.res, heap_setCell_same w (w0.heap.size + 1) 1 #[_, _, _, _, _, _, _] 27 (.string tx') hb, own_past h.own (grown_set w (w0.heap.size + 1) 1 _) (by omega), grown_setNew h.grow (by omega) 1 _, hf, by simpa using h.two, h.few, h.ok⟩
theorem SelS.num {w0 w : World} {bd nn : Nat} {l : List Tq} {b : Bool} {tx : ByteArray} {z : Nat} {v : Value} {acc : List Mat} (h : SelS w0 w bd nn l b tx z v acc) (z' : Nat) : SelS w0 (w.setCell ⟨w0.heap.size + 1, 2, none⟩ (.int .i64 (z' : Nat))) bd nn l b tx z' v acc := by
 have hf := h.far
 have hb := h.box
 unfold Box7 at hb
 exact ⟨h.rd.keep fun k hk => Below.heap_setCell _ _ _ _ (by show k ≠ w0.heap.size + 1; omega), (Below.heap_setCell _ _ _ _ (by show w0.heap.size ≠ w0.heap.size + 1; omega)).trans h.res, heap_setCell_same w (w0.heap.size + 1) 2 #[_, _, _, _, _, _, _] 27 (.int .i64 (z' : Nat)) hb, own_past h.own (grown_set w (w0.heap.size + 1) 2 _) (by omega), grown_setNew h.grow (by omega) 2 _, hf, by simpa using h.two, h.few, h.ok⟩
theorem SelS.app {w0 w w5 : World} {bd nn : Nat} {l : List Tq} {b : Bool} {tx : ByteArray} {z : Nat} {v v' : Value} {acc : List Mat} (h : SelS w0 w bd nn l b tx z v acc) (hg : w.grownBy w5 v.ownBlock) (x : Mat) (ho : w5.ownsRow (w0.heap.size + 2) 40 3 v' (acc.length + 1) (acc.flatMap encM ++ encM x)) (hx : x.1.size <= 1000000 /\ x.2.2.size <= 1000000) (hl : acc.length <= 1000000) : SelS w0 (w5.setCell ⟨w0.heap.size + 1, 5, none⟩ v') bd nn l b tx z v' (acc ++ [x]) := by
 have hf := h.far
 have h2 := h.two
 have hlt : ∀ k, v.ownBlock = some k -> w0.heap.size + 2 <= k := fun k e => (h.own.lt k e).1
 have hb : w5.heap[w0.heap.size + 1]? = some (.cells #[.string ⟨#[115, 101, 108]⟩, .string tx, .int .i64 (z : Nat), .int .i64 0, .slice none 0 0, v, .slice none 0 0] 27 (0, 0)) :=
  (hg.block _ (by omega) (fun e => by have := hlt _ e.symm; omega)).trans h.box
 have hr : w5.heap[w0.heap.size]? = some (.cells #[.string ⟨#[]⟩, .string ⟨#[]⟩, .int .i64 0, .int .i64 0, .slice none 0 0, .slice none 0 0, .slice none 0 0] 27 (0, 0)) :=
  (hg.block _ (by omega) (fun e => by have := hlt _ e.symm; omega)).trans h.res
 refine ⟨h.rd.keep fun k hk => (Below.heap_setCell _ _ _ _ (by show k ≠ w0.heap.size + 1; omega)).trans (hg.block k (by omega) (fun e => by have := hlt _ e.symm; omega)), (Below.heap_setCell _ _ _ _ (by show w0.heap.size ≠ w0.heap.size + 1; omega)).trans hr, heap_setCell_same w5 (w0.heap.size + 1) 5 #[_, _, _, _, _, _, _] 27 v' hb, ?_, grown_setNew (grown_own h.grow hg fun k e => by have := hlt k e; omega) (by omega) 5 _, hf, ?_, ?_, ?_⟩
 ·rw [List.length_append, List.flatMap_append]
  refine own_past ?_ (grown_set w5 (w0.heap.size + 1) 5 v') (by omega)
  simpa using ho
 ·have := hg.size; simp; omega
 ·rw [List.length_append]; simp; omega
 ·intro y hy
  rcases List.mem_append.1 hy with hy | hy
  ·exact h.ok y hy
  ·simp at hy; subst hy; exact hx
theorem SelS.turn {w0 w w5 : World} {bd nn : Nat} {l : List Tq} {b : Bool} {tx : ByteArray} {z : Nat} {v : Value} {acc : List Mat} (h : SelS w0 w bd nn l b tx z v acc) (hg : w.grownBy w5 v.ownBlock) : Box7 w5 (w0.heap.size + 1) (.string ⟨#[115, 101, 108]⟩) (.string tx) (.int .i64 (z : Nat)) (.int .i64 0) (.slice none 0 0) v (.slice none 0 0) := by
 have h2 := h.two
 exact (hg.block _ (by omega) (fun e => by have := (h.own.lt _ e.symm).1; omega)).trans h.box
theorem SelS.start {w : World} {bd nn : Nat} {l : List Tq} {b : Bool} (h : Rdd w bd l nn b) : SelS w ((w.alloc (Obj.cells #[.string ⟨#[]⟩, .string ⟨#[]⟩, .int .i64 0, .int .i64 0, .slice none 0 0, .slice none 0 0, .slice none 0 0] 27)).alloc (Obj.cells #[.string ⟨#[115, 101, 108]⟩, .string ⟨#[]⟩, .int .i64 0, .int .i64 0, .slice none 0 0, .slice none 0 0, .slice none 0 0] 27)) bd nn l b ⟨#[]⟩ 0 (.slice none 0 0) [] := by
 have hf := h.lt
 have hs : (w.alloc (Obj.cells #[.string ⟨#[]⟩, .string ⟨#[]⟩, .int .i64 0, .int .i64 0, .slice none 0 0, .slice none 0 0, .slice none 0 0] 27)).heap.size = w.heap.size + 1 := by simp
 refine ⟨(h.alloc _).alloc _, ?_, ?_, World.ownsRow_nil _ _ _ _, grown_alloc (grown_alloc (grown_refl _ _) _) _, hf, by simp, by simp, fun x hx => absurd hx (by simp)⟩
 ·exact (Below.heap_alloc _ _ _ (by simp)).trans (zal w _ _ _ _ _ _ _)
 ·have := zal (w.alloc (Obj.cells #[.string ⟨#[]⟩, .string ⟨#[]⟩, .int .i64 0, .int .i64 0, .slice none 0 0, .slice none 0 0, .slice none 0 0] 27)) (.string ⟨#[115, 101, 108]⟩) (.string ⟨#[]⟩) (.int .i64 0) (.int .i64 0) (.slice none 0 0) (.slice none 0 0) (.slice none 0 0)
  rw [hs] at this
  exact this
theorem txt_size {k : Nat} {b : Bool} {l : List Tq} (h : ∀ s ∈ l, TokW s) : (bz (txtK k b l)).size <= 1000 := by
 unfold txtK
 split
 ·show (0 : Nat) <= _; omega
 ·cases l with
  | nil => show (0 : Nat) <= _; omega
  | cons x t =>
    have := (h x (by simp)).toTokOk.few
    show (⟨x.2.toArray⟩ : ByteArray).size <= 1000
    rw [show (⟨x.2.toArray⟩ : ByteArray).size = x.2.length by simp [ByteArray.size]]; exact this
def BrS (T : Option (List Mat × List Tq)) (l : List Tq) (acc : List Mat) : Bool -> Prop
 | true => T = none
 | false => T = some (acc, l)
end Go.Proofs.YtbcemjhaecelnaaGreatDoor.Drd
end
