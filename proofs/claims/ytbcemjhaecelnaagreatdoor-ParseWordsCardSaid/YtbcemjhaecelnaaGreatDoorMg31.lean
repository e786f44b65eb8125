import Derived.Test.YtbcemjhaecelnaaGreatDoorMg19
section
set_option maxHeartbeats 2000000
set_option maxRecDepth 100000
namespace Go.Proofs.YtbcemjhaecelnaaGreatDoor.Drd
open Go.RowKit Go.Lib
open Go.Proofs.YtbcemjhaecelnaaGreatDoor.Par
theorem zim {s t : ByteArray} (h : s ≠ t) : ¬ s.toList = t.toList /\ (s.toList == t.toList) = false /\ (s.toList != t.toList) = true := by
 have h1 : ¬ s.toList = t.toList := fun e => h (by
  rw [ByteArray.toList_eq, ByteArray.toList_eq] at e
  cases s; cases t; simp at e; subst e; rfl)
 exact ⟨h1, by simp [h1], by simp [h1]⟩
structure TokD (w : World) (b off : Nat) (l : List Tq) : Prop where
 low : b < w.heap.size
 at0 : ∀ (j : Nat) (x : Tq), l[j]? = some x -> w.cell? ⟨b, off + j * 3, none⟩ = some (.int .i64 (x.1 : Nat))
 at1 : ∀ (j : Nat) (x : Tq), l[j]? = some x -> ∃ z : Int, w.cell? ⟨b, off + j * 3 + 1, none⟩ = some (.int .i64 z)
 at2 : ∀ (j : Nat) (x : Tq), l[j]? = some x -> w.cell? ⟨b, off + j * 3 + 2, none⟩ = some (.string ⟨x.2.toArray⟩)
theorem TokD.keep {w w' : World} {b off : Nat} {l : List Tq} (h : TokD w b off l) (hb : w'.heap[b]? = w.heap[b]?) : TokD w' b off l :=
 ⟨(Array.getElem?_eq_some_iff.1 (hb.trans (Array.getElem?_eq_getElem h.low))).1, fun j x hx => (World.cell?_of_block (a := ⟨b, off + j * 3, none⟩) hb).trans (h.at0 j x hx), fun j x hx => (h.at1 j x hx).imp fun _ hz => (World.cell?_of_block (a := ⟨b, off + j * 3 + 1, none⟩) hb).trans hz, fun j x hx => (World.cell?_of_block (a := ⟨b, off + j * 3 + 2, none⟩) hb).trans (h.at2 j x hx)⟩
theorem TokD.tail {w : World} {b off : Nat} {s : Tq} {l : List Tq} (h : TokD w b off (s :: l)) : TokD w b (off + 3) l :=
 ⟨h.low, fun j x hx => by have := h.at0 (j + 1) x (by simpa using hx); rwa [show off + (j + 1) * 3 = off + 3 + j * 3 by omega] at this, fun j x hx => by have := h.at1 (j + 1) x (by simpa using hx); rwa [show off + (j + 1) * 3 + 1 = off + 3 + j * 3 + 1 by omega] at this, fun j x hx => by have := h.at2 (j + 1) x (by simpa using hx); rwa [show off + (j + 1) * 3 + 2 = off + 3 + j * 3 + 2 by omega] at this⟩
structure TokW (x : Tq) : Prop extends TokOk x where
 wd : x.1 = 1 -> x.2 ≠ []
def Rdd (w : World) (bd : Nat) (l : List Tq) (nn : Nat) (bad : Bool) : Prop := ∃ o c, w.heap[bd]? = some (.cells #[.slice o l.length c, .int .i64 (nn : Nat), .bool bad] 52 (0, 0)) /\ l.length <= c /\ (l.length <= 1000000 /\ ∀ s ∈ l, TokW s) /\ (l = [] \/ ∃ b off, o = some ⟨b, off, none⟩ /\ b < bd /\ TokD w b off l)
theorem Rdd.lt {w : World} {bd nn : Nat} {l : List Tq} {bad : Bool} (h : Rdd w bd l nn bad) : bd < w.heap.size := by
 obtain ⟨_, _, h, _⟩ := h; exact (Array.getElem?_eq_some_iff.1 h).1
theorem Rdd.few {w : World} {bd nn : Nat} {l : List Tq} {bad : Bool} (h : Rdd w bd l nn bad) : l.length <= 1000000 := by
 obtain ⟨_, _, _, _, h, _⟩ := h; exact h.1
theorem Rdd.ok {w : World} {bd nn : Nat} {l : List Tq} {bad : Bool} (h : Rdd w bd l nn bad) : ∀ s ∈ l, TokW s := by
 obtain ⟨_, _, _, _, h, _⟩ := h; exact h.2
theorem Rdd.keep {w w' : World} {bd nn : Nat} {l : List Tq} {bad : Bool} (h : Rdd w bd l nn bad) (hb : ∀ k, k <= bd -> w'.heap[k]? = w.heap[k]?) : Rdd w' bd l nn bad := by
 obtain ⟨o, c, h1, hc, hm, h2⟩ := h
 exact ⟨o, c, (hb bd (Nat.le_refl _)).trans h1, hc, hm, h2.imp id fun ⟨b, off, e, hl, hs⟩ => ⟨b, off, e, hl, hs.keep (hb b (Nat.le_of_lt hl))⟩⟩
theorem Rdd.below {w w' : World} {bd nn : Nat} {l : List Tq} {bad : Bool} (h : Rdd w bd l nn bad) (hb : Below w.heap.size w w') : Rdd w' bd l nn bad :=
 h.keep fun k hk => hb.block k (Nat.lt_of_le_of_lt hk h.lt)
theorem Rdd.alloc {w : World} {bd nn : Nat} {l : List Tq} {bad : Bool} (h : Rdd w bd l nn bad) (o : Obj) : Rdd (w.alloc o) bd l nn bad := h.below ((Below.refl _ _).alloc (Nat.le_refl _) _)
theorem zav {w : World} {k T : Nat} {a b c : Value} (h : w.heap[k]? = some (.cells #[a, b, c] T (0, 0))) : (w.cell? ⟨k, 0, none⟩ = some a /\ w.cell? ⟨k, 1, none⟩ = some b /\ w.cell? ⟨k, 2, none⟩ = some c) /\ (w.frozen? ⟨k, 0, none⟩ = false /\ w.frozen? ⟨k, 1, none⟩ = false /\ w.frozen? ⟨k, 2, none⟩ = false) := by
 refine ⟨⟨?_, ?_, ?_⟩, ?_, ?_, ?_⟩ <;> simp [World.cell?, World.frozen?, h]
theorem Rdd.setBad {w : World} {bd nn : Nat} {l : List Tq} {bad : Bool} (h : Rdd w bd l nn bad) (b' : Bool) : Rdd (w.setCell ⟨bd, 2, none⟩ (.bool b')) bd l nn b' := by
 obtain ⟨o, c, h1, hc, hm, h2⟩ := h
 exact ⟨o, c, heap_setCell_same w bd 2 #[.slice o l.length c, .int .i64 (nn : Nat), .bool bad] 52 (.bool b') h1, hc, hm, h2.imp id fun ⟨b, off, e, hl, hs⟩ => ⟨b, off, e, hl, hs.keep (heap_setCell_other w ⟨bd, 2, none⟩ b _ (fun e => by have e2 : b = bd := e; omega))⟩⟩
theorem Rdd.setN {w : World} {bd nn : Nat} {l : List Tq} {bad : Bool} (h : Rdd w bd l nn bad) (m : Nat) (z : Int) (hz : z = (m : Nat)) : Rdd (w.setCell ⟨bd, 1, none⟩ (.int .i64 z)) bd l m bad := by
 subst hz
 obtain ⟨o, c, h1, hc, hm, h2⟩ := h
 exact ⟨o, c, heap_setCell_same w bd 1 #[.slice o l.length c, .int .i64 (nn : Nat), .bool bad] 52 (.int .i64 (m : Nat)) h1, hc, hm, h2.imp id fun ⟨b, off, e, hl, hs⟩ => ⟨b, off, e, hl, hs.keep (heap_setCell_other w ⟨bd, 1, none⟩ b _ (fun e => by have e2 : b = bd := e; omega))⟩⟩
theorem Rdd.setL {w : World} {bd n c b off nn : Nat} {v : Value} {l : List Tq} {bad : Bool} (h1 : w.heap[bd]? = some (.cells #[v, .int .i64 (nn : Nat), .bool bad] 52 (0, 0))) (hb : b < bd) (hs : TokD w b off l) (hn : l.length = n) (hc : n <= c) (hm : n <= 1000000 /\ ∀ s ∈ l, TokW s) :
 Rdd (w.setCell ⟨bd, 0, none⟩ (.slice (some ⟨b, off, none⟩) n c)) bd l nn bad := by
 subst hn
 exact ⟨_, c, heap_setCell_same w bd 0 #[v, .int .i64 (nn : Nat), .bool bad] 52 _ h1, hc, hm, .inr ⟨b, off, rfl, hb, hs.keep (heap_setCell_other w ⟨bd, 0, none⟩ b _ (fun e => by have e2 : b = bd := e; omega))⟩⟩
theorem Rdd.setL0 {w : World} {bd n c nn : Nat} {o : Option Addr} {v : Value} {bad : Bool} (h1 : w.heap[bd]? = some (.cells #[v, .int .i64 (nn : Nat), .bool bad] 52 (0, 0))) (hn : n = 0) : Rdd (w.setCell ⟨bd, 0, none⟩ (.slice o n c)) bd [] nn bad := by
 subst hn
 exact ⟨_, c, heap_setCell_same w bd 0 #[v, .int .i64 (nn : Nat), .bool bad] 52 _ h1, Nat.zero_le _, ⟨Nat.zero_le _, fun s hs => by simp at hs⟩, .inl rfl⟩
theorem tq_text (s : Tq) (tx : ByteArray) (h : s.2 = tx.data.toList) : (⟨s.2.toArray⟩ : ByteArray) = tx := by rw [h]
theorem zby (bd : Nat) (l : List Tq) (nn : Nat) (bad : Bool) (k : Nat) (tx : ByteArray) (w : World) (h : Rdd w bd l nn bad) :
 Calls Tryz.prog 23 #[.pointer (some ⟨bd, 0, none⟩), .int .i64 (k : Nat), .string tx] w fun e w' => e = .returned (.bool (!bad && isT k tx.data.toList l)) /\ w = w' := by
 obtain ⟨o, c, h1, hc, ⟨hm, _⟩, h2⟩ := h
 obtain ⟨⟨c0, c1, c2⟩, -⟩ := zav h1
 clear h1
 cases bad with
 | true =>
   clear h2
   go_enter Tryz.func23, Tryz.ntmps23
   go_wp2
   go_ret
   exact ⟨rfl, rfl⟩
 | false =>
 cases l with
 | nil =>
   have HC := zh c0
   clear h2 c0
   have c0 : w.cell? ⟨bd, 0, none⟩ = some (.slice o 0 c) := HC.out
   go_enter Tryz.func23, Tryz.ntmps23
   go_wp2
   go_ret
   exact ⟨rfl, rfl⟩
 | cons s t =>
   rcases h2 with h2 | ⟨b, off, rfl, hb, hs⟩
   ·cases h2
   have d0 := hs.at0 0 s rfl
   have d2 := hs.at2 0 s rfl
   simp only [Nat.zero_mul, Nat.add_zero] at d0 d2
   obtain ⟨n, hn⟩ : ∃ n, (s :: t).length = n := ⟨_, rfl⟩
   rw [hn] at c0 hm
   have h0 : 0 < n := by rw [<- hn]; simp
   have i0 : (0 : Int) < n := by omega
   obtain ⟨r, hr⟩ : ∃ r, isT k tx.data.toList (s :: t) = r := ⟨_, rfl⟩
   rw [hr]
   by_cases hk : s.1 = k
   ·by_cases ht : s.2 = tx.data.toList
    ·obtain rfl : true = r := by rw [<- hr]; simp [isT, hk, ht]
     rw [hk] at d0
     rw [tq_text s tx ht] at d2
     clear hn hs hb hk ht hr
     go_enter Tryz.func23, Tryz.ntmps23
     go_wp2
     go_ret
     exact ⟨rfl, rfl⟩
    ·obtain rfl : false = r := by rw [<- hr]; simp [isT, ht]
     obtain ⟨ty, hty⟩ : ∃ ty : ByteArray, ty = ⟨s.2.toArray⟩ := ⟨_, rfl⟩
     rw [<- hty] at d2
     obtain ⟨n1, n2, n3⟩ := zim (s := ty) (t := tx) (by rintro rfl; exact ht (by rw [hty]))
     rw [hk] at d0
     clear hn hs hb hk ht hr hty
     go_enter Tryz.func23, Tryz.ntmps23
     go_wp2
     go_ret
     exact ⟨rfl, rfl⟩
   ·obtain rfl : false = r := by rw [<- hr]; simp [isT, hk]
    have e1 : ((s.1 : Int) == (k : Int)) = false := by simp; omega
    have e2 : ¬ ((s.1 : Int) = (k : Int)) := by omega
    clear hn hs hb hk hr
    go_enter Tryz.func23, Tryz.ntmps23
    go_wp2
    go_ret
    exact ⟨rfl, rfl⟩
theorem zfM (bd : Nat) (s : Tq) (t : List Tq) (nn : Nat) (k : Nat) (hk : s.1 = k) (w : World) (h : Rdd w bd (s :: t) nn false) :
 Calls Tryz.prog 24 #[.pointer (some ⟨bd, 0, none⟩), .int .i64 (k : Nat)] w fun e w' => e = .returned (.string ⟨s.2.toArray⟩) /\ Rdd w' bd t nn false /\ w.grownBy w' (some bd) := by
 have hlt := h.lt
 obtain ⟨o, c, h1, hc, ⟨hm, hok⟩, h2⟩ := h
 have HOK := zh (fun x (hx : x ∈ t) => hok x (List.mem_cons_of_mem _ hx))
 clear hok
 obtain ⟨⟨c0, c1, c2⟩, f0, f1, f2⟩ := zav h1
 rcases h2 with h2 | ⟨b, off, rfl, hb, hs⟩
 ·cases h2
 have hbl := hs.low
 have d0 := hs.at0 0 s rfl
 have d2 := hs.at2 0 s rfl
 rw [hk] at d0
 simp only [Nat.zero_mul, Nat.add_zero] at d0 d2
 obtain ⟨n, hn⟩ : ∃ n, (s :: t).length = n := ⟨_, rfl⟩
 rw [hn] at c0 hm hc
 have h0 : 0 < n := by rw [<- hn]; simp
 have i0 : (0 : Int) < n := by omega
 have i1 : (1 : Int) <= n := by omega
 have HN := zh hn
 have HS := zh hs.tail
 have H1 := zh h1
 clear hn hs h1 hk
 have HR := zh (fun (a c : Nat) (ha : a = off + 3) (h2 : t.length = n - 1) (h3 : n - 1 <= c) => (Rdd.setL H1.out hb (by rw [ha]; exact HS.out) h2 h3 ⟨by omega, HOK.out⟩ : Rdd (w.setCell ⟨bd, 0, none⟩ (.slice (some ⟨b, a, none⟩) (n - 1) c)) bd t nn false))
 obtain ⟨tx, htx⟩ : ∃ tx : ByteArray, tx = ⟨s.2.toArray⟩ := ⟨_, rfl⟩
 rw [<- htx] at d2 ⊢
 clear htx
 go_enter Tryz.func24, Tryz.ntmps24
 go_wp2
 ·have ht : t = [] := by
   have := HN.out; simp at this
   cases t with
   | nil => rfl
   | cons x y => simp at this; omega
  subst ht
  go_ret
  exact ⟨rfl, Rdd.setL0 H1.out (by omega), grown_set _ _ _ _⟩
 ·go_ret
  exact ⟨rfl, HR.out _ _ rfl (by have := HN.out; simp at this; omega) (by omega), grown_set _ _ _ _⟩
theorem zel (bd : Nat) (l : List Tq) (nn : Nat) (bad : Bool) (k : Nat) (hk : bad = true \/ isK k l = false) (w : World) (h : Rdd w bd l nn bad) :
 Calls Tryz.prog 24 #[.pointer (some ⟨bd, 0, none⟩), .int .i64 (k : Nat)] w fun e w' => e = .returned (.string ⟨#[]⟩) /\ Rdd w' bd l nn true /\ w.grownBy w' (some bd) := by
 have HB := zh (And.intro (h.setBad true) (grown_set w bd 2 (.bool true)))
 obtain ⟨o, c, h1, hc, ⟨hm, _⟩, h2⟩ := h
 obtain ⟨⟨c0, c1, c2⟩, f0, f1, f2⟩ := zav h1
 clear h1
 cases bad with
 | true =>
   clear h2 hk
   go_enter Tryz.func24, Tryz.ntmps24
   go_wp2
   go_ret
   exact ⟨rfl, HB.out.1, HB.out.2⟩
 | false =>
 have hk := hk.resolve_left Bool.false_ne_true
 cases l with
 | nil =>
   have HC := zh c0
   clear h2 c0
   have c0 : w.cell? ⟨bd, 0, none⟩ = some (.slice o 0 c) := HC.out
   go_enter Tryz.func24, Tryz.ntmps24
   go_wp2
   go_ret
   exact ⟨rfl, HB.out.1, HB.out.2⟩
 | cons s t =>
   rcases h2 with h2 | ⟨b, off, rfl, hb, hs⟩
   ·cases h2
   have d0 := hs.at0 0 s rfl
   simp only [Nat.zero_mul, Nat.add_zero] at d0
   have hne : ((s.1 : Int) != (k : Int)) = true := by simp [isK] at hk; simp; omega
   have hne2 : ¬ ((s.1 : Int) = (k : Int)) := by simp [isK] at hk; omega
   obtain ⟨n, hn⟩ : ∃ n, (s :: t).length = n := ⟨_, rfl⟩
   rw [hn] at c0 hm
   have h0 : 0 < n := by rw [<- hn]; simp
   have i0 : (0 : Int) < n := by omega
   clear hn hs hb hk
   go_enter Tryz.func24, Tryz.ntmps24
   go_wp2
   go_ret
   exact ⟨rfl, HB.out.1, HB.out.2⟩
theorem zdh (bd : Nat) (l : List Tq) (nn : Nat) (tx : ByteArray) (hk : isT 5 tx.data.toList l = true) (w : World) (h : Rdd w bd l nn false) :
 Calls Tryz.prog 74 #[.pointer (some ⟨bd, 0, none⟩), .string tx] w fun e w' => e = .returned (.tuple #[]) /\ Rdd w' bd l.tail nn false /\ w.grownBy w' (some bd) := by
 have HI := zh (zby bd l nn false 5 tx w h)
 rw [hk] at HI
 cases l with
 | nil => simp [isT] at hk
 | cons s t =>
 have hlt := h.lt
 obtain ⟨o, c, h1, hc, ⟨hm, hok⟩, h2⟩ := h
 have HOK := zh (fun x (hx : x ∈ t) => hok x (List.mem_cons_of_mem _ hx))
 clear hok
 obtain ⟨⟨c0, c1, c2⟩, f0, f1, f2⟩ := zav h1
 rcases h2 with h2 | ⟨b, off, rfl, hb, hs⟩
 ·cases h2
 have hbl := hs.low
 obtain ⟨n, hn⟩ : ∃ n, (s :: t).length = n := ⟨_, rfl⟩
 rw [hn] at c0 hm hc
 have h0 : 0 < n := by rw [<- hn]; simp
 have i0 : (0 : Int) < n := by omega
 have i1 : (1 : Int) <= n := by omega
 have HN := zh hn
 have HS := zh hs.tail
 have H1 := zh h1
 clear hn hs h1 hk
 have HR := zh (fun (a c : Nat) (ha : a = off + 3) (h2 : t.length = n - 1) (h3 : n - 1 <= c) => (Rdd.setL H1.out hb (by rw [ha]; exact HS.out) h2 h3 ⟨by omega, HOK.out⟩ : Rdd (w.setCell ⟨bd, 0, none⟩ (.slice (some ⟨b, a, none⟩) (n - 1) c)) bd t nn false))
 go_enter Tryz.func74, Tryz.ntmps74
 go_wp2_with fail
 refine HI.out.mono ?_
 rintro e w1 ⟨rfl, rfl⟩
 go_wp2
 ·have ht : t = [] := by
   have := HN.out; simp at this
   cases t with
   | nil => rfl
   | cons x y => simp at this; omega
  subst ht
  go_end0
  exact ⟨rfl, Rdd.setL0 H1.out (by omega), grown_set _ _ _ _⟩
 ·go_end0
  exact ⟨rfl, HR.out _ _ rfl (by have := HN.out; simp at this; omega) (by omega), grown_set _ _ _ _⟩
theorem zd1 (bd : Nat) (l : List Tq) (nn : Nat) (bad : Bool) (tx : ByteArray) (hk : bad = true \/ isT 5 tx.data.toList l = false) (w : World) (h : Rdd w bd l nn bad) :
 Calls Tryz.prog 74 #[.pointer (some ⟨bd, 0, none⟩), .string tx] w fun e w' => e = .returned (.tuple #[]) /\ Rdd w' bd l nn true /\ w.grownBy w' (some bd) := by
 have HI := zh (zby bd l nn bad 5 tx w h)
 rw [show (!bad && isT 5 tx.data.toList l) = false by rcases hk with rfl | hk <;> simp [*]] at HI
 have HB := zh (And.intro (h.setBad true) (grown_set w bd 2 (.bool true)))
 obtain ⟨o, c, h1, hc, ⟨hm, _⟩, h2⟩ := h
 obtain ⟨⟨c0, c1, c2⟩, f0, f1, f2⟩ := zav h1
 clear h1 h2 hk
 go_enter Tryz.func74, Tryz.ntmps74
 go_wp2_with fail
 refine HI.out.mono ?_
 rintro e w1 ⟨rfl, rfl⟩
 go_wp2
 refine bodyPost_ret (results_none (by rfl) _ _ _) rfl ?_
 exact ⟨rfl, HB.out.1, HB.out.2⟩
end Go.Proofs.YtbcemjhaecelnaaGreatDoor.Drd
end

section
set_option maxHeartbeats 1000000
set_option maxRecDepth 100000
namespace Go.Proofs.YtbcemjhaecelnaaGreatDoor.Drd
open Go.RowKit Go.Lib
open Go.Proofs.YtbcemjhaecelnaaGreatDoor.Par
theorem zao (s : ByteArray) (l : List UInt8) : (s.toList == l) = (s.data.toList == l) := by rw [ByteArray.toList_eq]
theorem zem (s : ByteArray) (w : World) : Calls Tryz.prog 10 #[.string s] w fun e w' => e = .returned (.bool (aggB s.data.toList)) /\ w = w' := by
 have h1 := zao s [115, 117, 109]
 have h2 := zao s [109, 105, 110]
 have h3 := zao s [109, 97, 120]
 have h4 := zao s [99, 111, 117, 110, 116]
 have h5 := zao s [97, 118, 103]
 have h6 := zao s [116, 111, 112, 107]
 have h7 := zao s [113, 117, 97, 110, 116, 105, 108, 101]
 unfold aggB zdv
 generalize (s.data.toList == [115, 117, 109]) = p1 at h1 ⊢
 generalize (s.data.toList == [109, 105, 110]) = p2 at h2 ⊢
 generalize (s.data.toList == [109, 97, 120]) = p3 at h3 ⊢
 generalize (s.data.toList == [99, 111, 117, 110, 116]) = p4 at h4 ⊢
 generalize (s.data.toList == [97, 118, 103]) = p5 at h5 ⊢
 generalize (s.data.toList == [116, 111, 112, 107]) = p6 at h6 ⊢
 generalize (s.data.toList == [113, 117, 97, 110, 116, 105, 108, 101]) = p7 at h7 ⊢
 go_enter Tryz.func10, Tryz.ntmps10
 cases p1 with
 | true => go_wp2; go_ret; exact ⟨rfl, rfl⟩
 | false =>
 cases p2 with
 | true => go_wp2; go_ret; exact ⟨rfl, rfl⟩
 | false =>
 cases p3 with
 | true => go_wp2; go_ret; exact ⟨rfl, rfl⟩
 | false =>
 cases p4 with
 | true => go_wp2; go_ret; exact ⟨rfl, rfl⟩
 | false =>
 cases p5 with
 | true => go_wp2; go_ret; exact ⟨rfl, rfl⟩
 | false =>
 cases p6 with
 | true => go_wp2; go_ret; exact ⟨rfl, rfl⟩
 | false =>
 cases p7 with
 | true => go_wp2; go_ret; exact ⟨rfl, rfl⟩
 | false => go_wp2; go_ret; exact ⟨rfl, rfl⟩
theorem zgK (s : ByteArray) (w : World) : Calls Tryz.prog 98 #[.string s] w fun e w' => e = .returned (.bool (fnS s.data.toList)) /\ w = w' := by
 have h1 := zao s [115, 117, 109, 95, 111, 118, 101, 114]
 have h2 := zao s [109, 105, 110, 95, 111, 118, 101, 114]
 have h3 := zao s [109, 97, 120, 95, 111, 118, 101, 114]
 have h4 := zao s [99, 111, 117, 110, 116, 95, 111, 118, 101, 114]
 have h5 := zao s [97, 118, 103, 95, 111, 118, 101, 114]
 have h6 := zao s [108, 97, 115, 116, 95, 111, 118, 101, 114]
 have h7 := zao s [105, 110, 99, 114, 101, 97, 115, 101]
 have h8 := zao s [114, 97, 116, 101]
 unfold fnS
 generalize (s.data.toList == [115, 117, 109, 95, 111, 118, 101, 114]) = p1 at h1 ⊢
 generalize (s.data.toList == [109, 105, 110, 95, 111, 118, 101, 114]) = p2 at h2 ⊢
 generalize (s.data.toList == [109, 97, 120, 95, 111, 118, 101, 114]) = p3 at h3 ⊢
 generalize (s.data.toList == [99, 111, 117, 110, 116, 95, 111, 118, 101, 114]) = p4 at h4 ⊢
 generalize (s.data.toList == [97, 118, 103, 95, 111, 118, 101, 114]) = p5 at h5 ⊢
 generalize (s.data.toList == [108, 97, 115, 116, 95, 111, 118, 101, 114]) = p6 at h6 ⊢
 generalize (s.data.toList == [105, 110, 99, 114, 101, 97, 115, 101]) = p7 at h7 ⊢
 generalize (s.data.toList == [114, 97, 116, 101]) = p8 at h8 ⊢
 go_enter Tryz.func98, Tryz.ntmps98
 cases p1 with
 | true => go_wp2; go_ret; exact ⟨rfl, rfl⟩
 | false =>
 cases p2 with
 | true => go_wp2; go_ret; exact ⟨rfl, rfl⟩
 | false =>
 cases p3 with
 | true => go_wp2; go_ret; exact ⟨rfl, rfl⟩
 | false =>
 cases p4 with
 | true => go_wp2; go_ret; exact ⟨rfl, rfl⟩
 | false =>
 cases p5 with
 | true => go_wp2; go_ret; exact ⟨rfl, rfl⟩
 | false =>
 cases p6 with
 | true => go_wp2; go_ret; exact ⟨rfl, rfl⟩
 | false =>
 cases p7 with
 | true => go_wp2; go_ret; exact ⟨rfl, rfl⟩
 | false =>
 cases p8 with
 | true => go_wp2; go_ret; exact ⟨rfl, rfl⟩
 | false => go_wp2; go_ret; exact ⟨rfl, rfl⟩
theorem dcmp_any (s : ByteArray) (w : World) : Calls Tryz.prog 50 #[.string s] w fun e w' => e = .returned (.bool (cmpS s.data.toList)) /\ w = w' := by
 have h1 := zao s [61, 61]
 have h2 := zao s [33, 61]
 have h3 := zao s [60]
 have h4 := zao s [60, 61]
 have h5 := zao s [62]
 have h6 := zao s [62, 61]
 unfold cmpS
 generalize (s.data.toList == [61, 61]) = p1 at h1 ⊢
 generalize (s.data.toList == [33, 61]) = p2 at h2 ⊢
 generalize (s.data.toList == [60]) = p3 at h3 ⊢
 generalize (s.data.toList == [60, 61]) = p4 at h4 ⊢
 generalize (s.data.toList == [62]) = p5 at h5 ⊢
 generalize (s.data.toList == [62, 61]) = p6 at h6 ⊢
 go_enter Tryz.func50, Tryz.ntmps50
 cases p1 with
 | true => go_wp2; go_ret; exact ⟨rfl, rfl⟩
 | false =>
 cases p2 with
 | true => go_wp2; go_ret; exact ⟨rfl, rfl⟩
 | false =>
 cases p3 with
 | true => go_wp2; go_ret; exact ⟨rfl, rfl⟩
 | false =>
 cases p4 with
 | true => go_wp2; go_ret; exact ⟨rfl, rfl⟩
 | false =>
 cases p5 with
 | true => go_wp2; go_ret; exact ⟨rfl, rfl⟩
 | false =>
 cases p6 with
 | true => go_wp2; go_ret; exact ⟨rfl, rfl⟩
 | false => go_wp2; go_ret; exact ⟨rfl, rfl⟩
def ownB (s : List UInt8) : Bool := aggB s || fnS s || s == zdw || s == zbD || s == zbd || s == wAsc || s == zde || s == wOn || s == wIgn || s == wBy || s == za0
theorem own_is (s : List UInt8) : ownB s = (aggB s || fnS s || resB s) := by
 unfold ownB resB; simp only [Bool.or_assoc]
theorem down_any (s : ByteArray) (w : World) : Calls Tryz.prog 115 #[.string s] w fun e w' => e = .returned (.bool (ownB s.data.toList)) /\ w = w' := by
 have h1 := zao s [111, 114, 100, 101, 114]
 have h2 := zao s [108, 105, 109, 105, 116]
 have h3 := zao s [111, 102, 102, 115, 101, 116]
 have h4 := zao s [97, 115, 99]
 have h5 := zao s [100, 101, 115, 99]
 have h6 := zao s [111, 110]
 have h7 := zao s [105, 103, 110, 111, 114, 105, 110, 103]
 have h8 := zao s [98, 121]
 have h9 := zao s [119, 105, 116, 104, 111, 117, 116]
 have C0 := zh (zem s w)
 have C1 := zh (zgK s w)
 unfold ownB zdw zbD zbd wAsc zde wOn wIgn wBy za0
 generalize (s.data.toList == [111, 114, 100, 101, 114]) = p1 at h1 ⊢
 generalize (s.data.toList == [108, 105, 109, 105, 116]) = p2 at h2 ⊢
 generalize (s.data.toList == [111, 102, 102, 115, 101, 116]) = p3 at h3 ⊢
 generalize (s.data.toList == [97, 115, 99]) = p4 at h4 ⊢
 generalize (s.data.toList == [100, 101, 115, 99]) = p5 at h5 ⊢
 generalize (s.data.toList == [111, 110]) = p6 at h6 ⊢
 generalize (s.data.toList == [105, 103, 110, 111, 114, 105, 110, 103]) = p7 at h7 ⊢
 generalize (s.data.toList == [98, 121]) = p8 at h8 ⊢
 generalize (s.data.toList == [119, 105, 116, 104, 111, 117, 116]) = p9 at h9 ⊢
 generalize aggB s.data.toList = q0 at C0 ⊢
 generalize fnS s.data.toList = q1 at C1 ⊢
 go_enter Tryz.func115, Tryz.ntmps115
 go_wp2_with fail
 refine C0.out.mono ?_
 rintro e w1 ⟨rfl, rfl⟩
 cases q0 with
 | true => go_wp2; go_ret; exact ⟨rfl, rfl⟩
 | false =>
 go_wp2_with fail
 refine C1.out.mono ?_
 rintro e w2 ⟨rfl, rfl⟩
 cases q1 with
 | true => go_wp2; go_ret; exact ⟨rfl, rfl⟩
 | false =>
 cases p1 with
 | true => go_wp2; go_ret; exact ⟨rfl, rfl⟩
 | false =>
 cases p2 with
 | true => go_wp2; go_ret; exact ⟨rfl, rfl⟩
 | false =>
 cases p3 with
 | true => go_wp2; go_ret; exact ⟨rfl, rfl⟩
 | false =>
 cases p4 with
 | true => go_wp2; go_ret; exact ⟨rfl, rfl⟩
 | false =>
 cases p5 with
 | true => go_wp2; go_ret; exact ⟨rfl, rfl⟩
 | false =>
 cases p6 with
 | true => go_wp2; go_ret; exact ⟨rfl, rfl⟩
 | false =>
 cases p7 with
 | true => go_wp2; go_ret; exact ⟨rfl, rfl⟩
 | false =>
 cases p8 with
 | true => go_wp2; go_ret; exact ⟨rfl, rfl⟩
 | false =>
 cases p9 with
 | true => go_wp2; go_ret; exact ⟨rfl, rfl⟩
 | false => go_wp2; go_ret; exact ⟨rfl, rfl⟩
end Go.Proofs.YtbcemjhaecelnaaGreatDoor.Drd
end
