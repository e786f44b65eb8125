import Derived.Test.YtbcemjhaecelnaaGreatDoorMg03
import Derived.Test.YtbcemjhaecelnaaGreatDoorMg07
import Derived.Test.YtbcemjhaecelnaaGreatDoorMg15
import Derived.Laws.StructEq
import Derived.Deep.RegionWith
import Derived.Deep.RegionHeld3
import Derived.Deep.QuietTactic
import Derived.BigQuiet
import Derived.Deep.DeepMust
import Derived.OneCell
import Derived.Laws.OwnMore
section
set_option maxHeartbeats 1000000
set_option maxRecDepth 100000
section
namespace Go.Proofs.YtbcemjhaecelnaaGreatDoor.Par
open Go.RowKit Go.Lib
structure TokAt (w : World) (b off : Nat) (l : List Tq) : Prop where
 low : b < w.heap.size
 at0 : ∀ (j : Nat) (x : Tq), l[j]? = some x -> w.cell? ⟨b, off + j * 3, none⟩ = some (.int .i64 (x.1 : Nat))
 at2 : ∀ (j : Nat) (x : Tq), l[j]? = some x -> w.cell? ⟨b, off + j * 3 + 2, none⟩ = some (.string ⟨x.2.toArray⟩)
theorem TokAt.keep {w w' : World} {b off : Nat} {l : List Tq} (h : TokAt w b off l) (hb : w'.heap[b]? = w.heap[b]?) : TokAt w' b off l :=
 ⟨(Array.getElem?_eq_some_iff.1 (hb.trans (Array.getElem?_eq_getElem h.low))).1, fun j x hx => (World.cell?_of_block (a := ⟨b, off + j * 3, none⟩) hb).trans (h.at0 j x hx), fun j x hx => (World.cell?_of_block (a := ⟨b, off + j * 3 + 2, none⟩) hb).trans (h.at2 j x hx)⟩
theorem TokAt.tail {w : World} {b off : Nat} {s : Tq} {l : List Tq} (h : TokAt w b off (s :: l)) : TokAt w b (off + 3) l :=
 ⟨h.low, fun j x hx => by have := h.at0 (j + 1) x (by simpa using hx); rwa [show off + (j + 1) * 3 = off + 3 + j * 3 by omega] at this, fun j x hx => by have := h.at2 (j + 1) x (by simpa using hx); rwa [show off + (j + 1) * 3 + 2 = off + 3 + j * 3 + 2 by omega] at this⟩
def Rd (w : World) (bd : Nat) (l : List Tq) : Prop := ∃ o c, w.heap[bd]? = some (.cells #[.slice o l.length c] 46 (0, 0)) /\ l.length <= c /\ (l.length <= 1000000 /\ ∀ s ∈ l, TokOk s) /\ (l = [] \/ ∃ b off, o = some ⟨b, off, none⟩ /\ b < bd /\ TokAt w b off l)
theorem Rd.lt {w : World} {bd : Nat} {l : List Tq} (h : Rd w bd l) : bd < w.heap.size := by
 obtain ⟨_, _, h, _⟩ := h; exact (Array.getElem?_eq_some_iff.1 h).1
theorem Rd.few {w : World} {bd : Nat} {l : List Tq} (h : Rd w bd l) : l.length <= 1000000 := by
 obtain ⟨_, _, _, _, h, _⟩ := h; exact h.1
theorem Rd.ok {w : World} {bd : Nat} {l : List Tq} (h : Rd w bd l) : ∀ s ∈ l, TokOk s := by
 obtain ⟨_, _, _, _, h, _⟩ := h; exact h.2
theorem Rd.keep {w w' : World} {bd : Nat} {l : List Tq} (h : Rd w bd l) (hb : ∀ k, k <= bd -> w'.heap[k]? = w.heap[k]?) : Rd w' bd l := by
 obtain ⟨o, c, h1, hc, hm, h2⟩ := h
 exact ⟨o, c, (hb bd (Nat.le_refl _)).trans h1, hc, hm, h2.imp id fun ⟨b, off, e, hl, hs⟩ => ⟨b, off, e, hl, hs.keep (hb b (Nat.le_of_lt hl))⟩⟩
theorem Rd.below {w w' : World} {bd : Nat} {l : List Tq} (h : Rd w bd l) (hb : Below w.heap.size w w') : Rd w' bd l :=
 h.keep fun k hk => hb.block k (Nat.lt_of_le_of_lt hk h.lt)
theorem Rd.alloc {w : World} {bd : Nat} {l : List Tq} (h : Rd w bd l) (o : Obj) : Rd (w.alloc o) bd l := h.below ((Below.refl _ _).alloc (Nat.le_refl _) _)
theorem grown_refl (w : World) (r : Option Nat) : w.grownBy w r := ⟨rfl, rfl, rfl, Nat.le_refl _, fun _ _ _ => rfl⟩
theorem grown_trans {a b c : World} {r : Option Nat} (h : a.grownBy b r) (k : b.grownBy c r) : a.grownBy c r :=
 ⟨k.os.trans h.os, k.tape.trans h.tape, k.output.trans h.output, Nat.le_trans h.size k.size, fun i hi hr => (k.block i (Nat.lt_of_lt_of_le hi h.size) hr).trans (h.block i hi hr)⟩
theorem grown_of_below {w w' : World} (h : Below w.heap.size w w') (r : Option Nat) : w.grownBy w' r := ⟨h.os, h.tape, h.output, h.size, fun k hk _ => h.block k hk⟩
theorem grown_set (w : World) (bd i : Nat) (u : Value) : w.grownBy (w.setCell ⟨bd, i, none⟩ u) (some bd) :=
 ⟨rfl, rfl, rfl, by simp [World.setCell], fun k _ hk => heap_setCell_other w ⟨bd, i, none⟩ k u (fun e => hk (by simp [e]))⟩
theorem grown_alloc {a b : World} {r : Option Nat} (h : a.grownBy b r) (o : Obj) : a.grownBy (b.alloc o) r := grown_trans h (World.grownBy_alloc _ _ _)
theorem Rd.set {w : World} {bd n c b off : Nat} {v : Value} {l : List Tq} (h1 : w.heap[bd]? = some (.cells #[v] 46 (0, 0))) (hb : b < bd) (hs : TokAt w b off l) (hn : l.length = n) (hc : n <= c) (hm : n <= 1000000 /\ ∀ s ∈ l, TokOk s) :
 Rd (w.setCell ⟨bd, 0, none⟩ (.slice (some ⟨b, off, none⟩) n c)) bd l := by
 subst hn
 exact ⟨_, c, one_setCell h1, hc, hm, .inr ⟨b, off, rfl, hb, hs.keep (heap_setCell_other w ⟨bd, 0, none⟩ b _ (fun e => by have e2 : b = bd := e; omega))⟩⟩
theorem Rd.set0 {w : World} {bd n c : Nat} {o : Option Addr} {v : Value} (h1 : w.heap[bd]? = some (.cells #[v] 46 (0, 0))) (hn : n = 0) : Rd (w.setCell ⟨bd, 0, none⟩ (.slice o n c)) bd [] := by
 subst hn
 exact ⟨_, c, one_setCell h1, Nat.zero_le _, ⟨Nat.zero_le _, fun s hs => by simp at hs⟩, .inl rfl⟩
theorem zaN {k : Nat} {l : List Tq} (h : isK k l = true) : ∃ x t, l = x :: t /\ x.1 = k := by
 cases l with
 | nil => simp [isK] at h
 | cons x t => exact ⟨x, t, rfl, by simpa [isK] using h⟩
theorem zef (bd : Nat) (s : Tq) (t : List Tq) (k : Nat) (hk : s.1 = k) (w : World) (h : Rd w bd (s :: t)) :
 Calls Tryz.prog 93 #[.pointer (some ⟨bd, 0, none⟩), .int .i64 (k : Nat)] w fun e w' => e = .returned (.tuple #[.string ⟨s.2.toArray⟩, .bool true]) /\ Rd w' bd t /\ w.grownBy w' (some bd) := by
 have hlt := h.lt
 obtain ⟨o, c, h1, hc, ⟨hm, hok⟩, h2⟩ := h
 have HOK := zh (fun x (hx : x ∈ t) => hok x (List.mem_cons_of_mem _ hx))
 clear hok
 have hcell : w.cell? ⟨bd, 0, none⟩ = some (.slice o (s :: t).length c) := by simp [World.cell?, h1]
 have hfr : w.frozen? ⟨bd, 0, none⟩ = false := by simp [World.frozen?, h1]
 rcases h2 with h2 | ⟨b, off, rfl, hb, hs⟩
 ·cases h2
 have hbl := hs.low
 have c0 := hs.at0 0 s rfl
 have c1 := hs.at2 0 s rfl
 rw [hk] at c0
 simp only [Nat.zero_mul, Nat.add_zero] at c0 c1
 obtain ⟨n, hn⟩ : ∃ n, (s :: t).length = n := ⟨_, rfl⟩
 rw [hn] at hcell hm hc
 have h0 : 0 < n := by rw [<- hn]; simp
 have i0 : (0 : Int) < n := by omega
 have i1 : (1 : Int) <= n := by omega
 have HN := zh hn
 have HS := zh hs.tail
 have H1 := zh h1
 clear hn hs h1 hk
 have HR := zh (fun (a c : Nat) (ha : a = off + 3) (h2 : t.length = n - 1) (h3 : n - 1 <= c) => (Rd.set H1.out hb (by rw [ha]; exact HS.out) h2 h3 ⟨by omega, HOK.out⟩ : Rd (w.setCell ⟨bd, 0, none⟩ (.slice (some ⟨b, a, none⟩) (n - 1) c)) bd t))
 obtain ⟨tx, htx⟩ : ∃ tx : ByteArray, tx = ⟨s.2.toArray⟩ := ⟨_, rfl⟩
 rw [<- htx] at c1 ⊢
 clear htx
 go_enter Tryz.func93, Tryz.ntmps93
 go_wp2
 ·have ht : t = [] := by
   have := HN.out; simp at this
   cases t with
   | nil => rfl
   | cons x y => simp at this; omega
  subst ht
  go_ret2
  exact ⟨rfl, Rd.set0 H1.out (by omega), grown_set _ _ _ _⟩
 ·go_ret2
  exact ⟨rfl, HR.out _ _ rfl (by have := HN.out; simp at this; omega) (by omega), grown_set _ _ _ _⟩
theorem zgD (bd : Nat) (l : List Tq) (k : Nat) (hk : isK k l = false) (w : World) (h : Rd w bd l) :
 Calls Tryz.prog 93 #[.pointer (some ⟨bd, 0, none⟩), .int .i64 (k : Nat)] w fun e w' => e = .returned (.tuple #[.string ⟨#[]⟩, .bool false]) /\ w = w' := by
 obtain ⟨o, c, h1, hc, ⟨hm, _⟩, h2⟩ := h
 have hcell : w.cell? ⟨bd, 0, none⟩ = some (.slice o l.length c) := by simp [World.cell?, h1]
 cases l with
 | nil =>
   have HC := zh hcell
   clear h1 h2 hc hm hcell
   have hcell : w.cell? ⟨bd, 0, none⟩ = some (.slice o 0 c) := HC.out
   go_enter Tryz.func93, Tryz.ntmps93
   go_wp2
   go_ret2
   exact ⟨rfl, rfl⟩
 | cons s t =>
   rcases h2 with h2 | ⟨b, off, rfl, hb, hs⟩
   ·cases h2
   have c0 := hs.at0 0 s rfl
   simp only [Nat.zero_mul, Nat.add_zero] at c0
   have hne : ((s.1 : Int) != (k : Int)) = true := by simp [isK] at hk; simp; omega
   obtain ⟨n, hn⟩ : ∃ n, (s :: t).length = n := ⟨_, rfl⟩
   rw [hn] at hcell hm
   have h0 : 0 < n := by rw [<- hn]; simp
   have i0 : (0 : Int) < n := by omega
   clear hn hs h1 hb hk
   go_enter Tryz.func93, Tryz.ntmps93
   go_wp2
   all_goals
    go_ret2
    exact ⟨rfl, rfl⟩
theorem take_yes (bd : Nat) (l : List Tq) (k : Nat) (tx : ByteArray) (hk : isT k tx.data.toList l = true) (w : World) (h : Rd w bd l) :
 Calls Tryz.prog 92 #[.pointer (some ⟨bd, 0, none⟩), .int .i64 (k : Nat), .string tx] w fun e w' => e = .returned (.bool true) /\ Rd w' bd l.tail /\ w.grownBy w' (some bd) := by
 cases l with
 | nil => simp [isT] at hk
 | cons s t =>
 have hlt := h.lt
 obtain ⟨o, c, h1, hc, ⟨hm, hok⟩, h2⟩ := h
 have HOK := zh (fun x (hx : x ∈ t) => hok x (List.mem_cons_of_mem _ hx))
 clear hok
 have hcell : w.cell? ⟨bd, 0, none⟩ = some (.slice o (s :: t).length c) := by simp [World.cell?, h1]
 have hfr : w.frozen? ⟨bd, 0, none⟩ = false := by simp [World.frozen?, h1]
 rcases h2 with h2 | ⟨b, off, rfl, hb, hs⟩
 ·cases h2
 have hbl := hs.low
 have c0 := hs.at0 0 s rfl
 have c1 := hs.at2 0 s rfl
 have hk2 : s.1 = k /\ s.2 = tx.data.toList := by simpa [isT] using hk
 rw [hk2.1] at c0
 rw [hk2.2, zdq] at c1
 simp only [Nat.zero_mul, Nat.add_zero] at c0 c1
 obtain ⟨n, hn⟩ : ∃ n, (s :: t).length = n := ⟨_, rfl⟩
 rw [hn] at hcell hm hc
 have h0 : 0 < n := by rw [<- hn]; simp
 have i0 : (0 : Int) < n := by omega
 have i1 : (1 : Int) <= n := by omega
 have HN := zh hn
 have HS := zh hs.tail
 have H1 := zh h1
 clear hn hs h1 hk hk2
 have HR := zh (fun (a c : Nat) (ha : a = off + 3) (h2 : t.length = n - 1) (h3 : n - 1 <= c) => (Rd.set H1.out hb (by rw [ha]; exact HS.out) h2 h3 ⟨by omega, HOK.out⟩ : Rd (w.setCell ⟨bd, 0, none⟩ (.slice (some ⟨b, a, none⟩) (n - 1) c)) bd t))
 go_enter Tryz.func92, Tryz.ntmps92
 go_wp2
 ·have ht : t = [] := by
   have := HN.out; simp at this
   cases t with
   | nil => rfl
   | cons x y => simp at this; omega
  subst ht
  go_ret
  exact ⟨rfl, Rd.set0 H1.out (by omega), grown_set _ _ _ _⟩
 ·go_ret
  exact ⟨rfl, HR.out _ _ rfl (by have := HN.out; simp at this; omega) (by omega), grown_set _ _ _ _⟩
theorem take_no (bd : Nat) (l : List Tq) (k : Nat) (tx : ByteArray) (hk : isT k tx.data.toList l = false) (w : World) (h : Rd w bd l) :
 Calls Tryz.prog 92 #[.pointer (some ⟨bd, 0, none⟩), .int .i64 (k : Nat), .string tx] w fun e w' => e = .returned (.bool false) /\ w = w' := by
 obtain ⟨o, c, h1, hc, ⟨hm, _⟩, h2⟩ := h
 have hcell : w.cell? ⟨bd, 0, none⟩ = some (.slice o l.length c) := by simp [World.cell?, h1]
 cases l with
 | nil =>
   have HC := zh hcell
   clear h1 h2 hc hm hcell
   have hcell : w.cell? ⟨bd, 0, none⟩ = some (.slice o 0 c) := HC.out
   go_enter Tryz.func92, Tryz.ntmps92
   go_wp2
   go_ret
   exact ⟨rfl, rfl⟩
 | cons s t =>
   rcases h2 with h2 | ⟨b, off, rfl, hb, hs⟩
   ·cases h2
   have c0 := hs.at0 0 s rfl
   have c1 := hs.at2 0 s rfl
   simp only [Nat.zero_mul, Nat.add_zero] at c0 c1
   obtain ⟨n, hn⟩ : ∃ n, (s :: t).length = n := ⟨_, rfl⟩
   rw [hn] at hcell hm
   have h0 : 0 < n := by rw [<- hn]; simp
   have i0 : (0 : Int) < n := by omega
   obtain ⟨ty, hty⟩ : ∃ ty : ByteArray, ty = ⟨s.2.toArray⟩ := ⟨_, rfl⟩
   rw [<- hty] at c1
   have hyl : ty.data.toList = s.2 := by rw [hty]
   by_cases hne : s.1 = k
   ·have hne2 : ty ≠ tx := by
     rintro rfl
     simp [isT, hne, hyl] at hk
    have hne5 : ¬ ty.toList = tx.toList := fun e => hne2 (by
     rw [ByteArray.toList_eq, ByteArray.toList_eq] at e
     cases ty; cases tx; simp at e; subst e; rfl)
    have hne3 : (ty.toList == tx.toList) = false := by simp [hne5]
    have hne4 : (ty.toList != tx.toList) = true := by simp [hne5]
    clear hne2
    rw [hne] at c0
    clear hn hs h1 hb hk hne hty hyl
    go_enter Tryz.func92, Tryz.ntmps92
    go_wp2
    all_goals
     go_ret
     exact ⟨rfl, rfl⟩
   ·have hne4 : ¬ ((s.1 : Int) = (k : Int)) := by omega
    clear hn hs h1 hb hk hne hty hyl
    go_enter Tryz.func92, Tryz.ntmps92
    go_wp2
    all_goals
     go_ret
     exact ⟨rfl, rfl⟩
end Go.Proofs.YtbcemjhaecelnaaGreatDoor.Par
end
section
namespace Go.Proofs.YtbcemjhaecelnaaGreatDoor.Par
open Go.RowKit Go.Lib
open Go.Proofs.YtbcemjhaecelnaaGreatDoor.Sto
def za2 (w : World) (P : Nat -> Prop) (o : Option Addr) (k : Nat) (rows : List (List Value)) : Prop := rows = [] \/ ∃ b off, o = some ⟨b, off, none⟩ /\ P b /\ b < w.heap.size /\ ∀ (j : Nat) cs, rows[j]? = some cs -> ∀ (i : Nat) v, cs[i]? = some v -> w.cell? ⟨b, off + j * k + i, none⟩ = some v
theorem lt_keep {w w' : World} {b : Nat} (hl : b < w.heap.size) (h : w'.heap[b]? = w.heap[b]?) : b < w'.heap.size := (Array.getElem?_eq_some_iff.1 (h.trans (Array.getElem?_eq_getElem hl))).1
theorem za2.keep {w w' : World} {P Q : Nat -> Prop} {o : Option Addr} {k : Nat} {rows : List (List Value)} (h : za2 w P o k rows) (hk : ∀ b, P b -> b < w.heap.size -> w'.heap[b]? = w.heap[b]? /\ Q b) : za2 w' Q o k rows :=
 h.imp id fun ⟨b, off, e, hp, hl, hs⟩ => ⟨b, off, e, (hk b hp hl).2, lt_keep hl (hk b hp hl).1, fun j cs hc i v hv => (World.cell?_of_block (a := ⟨b, off + j * k + i, none⟩) (hk b hp hl).1).trans (hs j cs hc i v hv)⟩
theorem za2.nil (w : World) (P : Nat -> Prop) (o : Option Addr) (k : Nat) : za2 w P o k [] := .inl rfl
def encN (s : ByteArray) : List Value := [.string s]
def encM (m : Mat) : List Value := [.string m.1, .int .i64 m.2.1, .string m.2.2]
def opE : Ex -> ByteArray
 | .num _ => ⟨#[110, 117, 109]⟩
 | .neg _ => ⟨#[110, 101, 103]⟩
 | .bin .. => ⟨#[98, 105, 110]⟩
 | .agg .. => ⟨#[97, 103, 103]⟩
 | .fn .. => ⟨#[102, 110]⟩
 | .sel .. => ⟨#[115, 101, 108]⟩
def zfC : Ex -> ByteArray
 | .num _ => ⟨#[]⟩
 | .neg _ => ⟨#[]⟩
 | .bin op _ _ _ _ => op
 | .agg name _ _ _ _ => name
 | .fn name _ => name
 | .sel m _ _ => m
def nE : Ex -> Nat
 | .num n => n
 | .neg _ => 0
 | .bin .. => 0
 | .agg _ n _ _ _ => n
 | .fn .. => 0
 | .sel _ n _ => n
def zfD : Ex -> Nat
 | .num _ => 0
 | .neg _ => 0
 | .bin _ m _ _ _ => m
 | .agg _ _ m _ _ => m
 | .fn .. => 0
 | .sel .. => 0
def zb7 : Ex -> List ByteArray
 | .num _ => []
 | .neg _ => []
 | .bin _ _ l _ _ => l
 | .agg _ _ _ l _ => l
 | .fn .. => []
 | .sel .. => []
def zcD : Ex -> List Mat
 | .num _ => []
 | .neg _ => []
 | .bin .. => []
 | .agg .. => []
 | .fn .. => []
 | .sel _ _ ms => ms
def zaO : Ex -> List Ex
 | .num _ => []
 | .neg x => [x]
 | .bin _ _ _ l r => [l, r]
 | .agg _ _ _ _ x => [x]
 | .fn _ x => [x]
 | .sel .. => []
theorem ex_ext {x y : Ex} (h1 : opE x = opE y) (h2 : zfC x = zfC y) (h3 : nE x = nE y) (h4 : zfD x = zfD y) (h5 : zb7 x = zb7 y) (h6 : zcD x = zcD y) (h7 : zaO x = zaO y) : x = y := by
 cases x <;> cases y <;> simp_all [opE, zfC, nE, zfD, zb7, zcD, zaO]
theorem zhQ {x y : Ex} (h : y ∈ zaO x) : countE y < countE x := by
 cases x <;> simp [zaO] at h
 ·subst h; simp [countE]
 ·rcases h with rfl | rfl <;> simp [countE] <;> omega
 ·subst h; simp [countE]
 ·subst h; simp [countE]
inductive Nod (w : World) (P : Nat -> Prop) : List Value -> Ex -> Prop
 | mk (x : Ex) (n m : Int) (o1 o2 o3 : Option Addr) (k1 c1 k2 c2 k3 c3 : Nat) (css : List (List Value)) (hn : n = nE x) (hm : m = zfD x)
  (h1 : (zb7 x).length = k1 /\ k1 <= c1) (h2 : (zcD x).length = k2) (h3 : (zaO x).length = k3) (h4 : css.length = k3)
  (s1 : za2 w P o1 1 ((zb7 x).map encN)) (s2 : za2 w P o2 3 ((zcD x).map encM)) (s3 : za2 w P o3 7 css)
  (hk : ∀ (j : Nat) cs y, css[j]? = some cs -> (zaO x)[j]? = some y -> Nod w P cs y) :
  Nod w P [.string (opE x), .string (zfC x), .int .i64 n, .int .i64 m, .slice o1 k1 c1, .slice o2 k2 c2, .slice o3 k3 c3] x
theorem Nod.keep {w w' : World} {P Q : Nat -> Prop} {cs : List Value} {x : Ex} (h : Nod w P cs x) (hk : ∀ b, P b -> b < w.heap.size -> w'.heap[b]? = w.heap[b]? /\ Q b) : Nod w' Q cs x := by
 induction h with
 | mk x n m o1 o2 o3 k1 c1 k2 c2 k3 c3 css hn hm h1 h2 h3 h4 s1 s2 s3 _ ih =>
   exact .mk x n m o1 o2 o3 k1 c1 k2 c2 k3 c3 css hn hm h1 h2 h3 h4 (s1.keep hk) (s2.keep hk) (s3.keep hk) ih
theorem Nod.grown {w w' : World} {P : Nat -> Prop} {cs : List Value} {x : Ex} {bd : Nat} (h : Nod w P cs x) (hg : w.grownBy w' (some bd)) (hP : ∀ b, P b -> b ≠ bd) : Nod w' P cs x :=
 h.keep fun b hp hl => ⟨hg.block b hl (by simpa using hP b hp), hp⟩
theorem Nod.under {w w' : World} {P : Nat -> Prop} {cs : List Value} {x : Ex} (h : Nod w P cs x) (hb : Below w.heap.size w w') : Nod w' P cs x :=
 h.keep fun b hp hl => ⟨hb.block b hl, hp⟩
def Raw (cs : List Value) : Prop := ∃ a b n m o1 k1 c1 o2 k2 c2 o3 k3 c3, cs = [.string a, .string b, .int .i64 n, .int .i64 m, .slice o1 k1 c1, .slice o2 k2 c2, .slice o3 k3 c3]
theorem Nod.raw {w : World} {P : Nat -> Prop} {cs : List Value} {x : Ex} (h : Nod w P cs x) : Raw cs := by
 cases h; exact ⟨_, _, _, _, _, _, _, _, _, _, _, _, _, rfl⟩
theorem Raw.len {cs : List Value} (h : Raw cs) : cs.length = 7 := by
 obtain ⟨a, b, n, m, o1, k1, c1, o2, k2, c2, o3, k3, c3, rfl⟩ := h; rfl
def Res (w : World) (bd : Nat) (r : Option (Ex × List Tq)) (e : Ending) (w' : World) : Prop := match r with
 | none => ∃ cs, e = .returned (.tuple #[.agg cs.toArray, .bool false]) /\ Raw cs /\ w.grownBy w' (some bd)
 | some (x, m) => ∃ cs, e = .returned (.tuple #[.agg cs.toArray, .bool true]) /\ Nod w' (fun b => w.heap.size <= b) cs x /\ Rd w' bd m /\ w.grownBy w' (some bd)
theorem Res.grown {w0 w : World} {bd : Nat} {r : Option (Ex × List Tq)} {e : Ending} {w' : World} (hg : w0.grownBy w (some bd)) (h : Res w bd r e w') : Res w0 bd r e w' := by
 have hs := hg.size
 cases r with
 | none =>
   obtain ⟨cs, he, hr, hw⟩ := h
   exact ⟨cs, he, hr, grown_trans hg hw⟩
 | some p =>
   obtain ⟨x, m⟩ := p
   obtain ⟨cs, he, ht, hr, hw⟩ := h
   exact ⟨cs, he, ht.keep fun b hb _ => ⟨rfl, by omega⟩, hr, grown_trans hg hw⟩
end Go.Proofs.YtbcemjhaecelnaaGreatDoor.Par
end
section
namespace Go.Proofs.YtbcemjhaecelnaaGreatDoor.Par
open Go.RowKit Go.Lib
open Go.Proofs.YtbcemjhaecelnaaGreatDoor.Sto
theorem za9 (bd : Nat) (l : List Tq) (tx : ByteArray) (hk : isT 5 tx.data.toList l = true) (w : World) (h : Rd w bd l) :
 Calls Tryz.prog 111 #[.pointer (some ⟨bd, 0, none⟩), .string tx] w fun e w' => e = .returned (.bool true) /\ Rd w' bd l.tail /\ w.grownBy w' (some bd) := by
 have HT := zh (take_yes bd l 5 tx hk w h)
 clear h hk
 go_enter Tryz.func111, Tryz.ntmps111
 go_wp2_with fail
 refine HT.out.mono ?_
 rintro e w1 ⟨rfl, hr, hg⟩
 have HR := zh (And.intro hr hg)
 clear hr hg
 go_wp2
 go_ret
 exact ⟨rfl, HR.out⟩
theorem zbR (bd : Nat) (l : List Tq) (tx : ByteArray) (hk : isT 5 tx.data.toList l = false) (w : World) (h : Rd w bd l) :
 Calls Tryz.prog 111 #[.pointer (some ⟨bd, 0, none⟩), .string tx] w fun e w' => e = .returned (.bool false) /\ w = w' := by
 have HT := zh (take_no bd l 5 tx hk w h)
 clear h hk
 go_enter Tryz.func111, Tryz.ntmps111
 go_wp2_with fail
 refine HT.out.mono ?_
 rintro e w1 ⟨rfl, rfl⟩
 go_wp2
 go_ret
 exact ⟨rfl, rfl⟩
theorem zcM (bd : Nat) (l : List Tq) (tx : ByteArray) (hk : isT 1 tx.data.toList l = true) (w : World) (h : Rd w bd l) :
 Calls Tryz.prog 67 #[.pointer (some ⟨bd, 0, none⟩), .string tx] w fun e w' => e = .returned (.bool true) /\ Rd w' bd l.tail /\ w.grownBy w' (some bd) := by
 have HT := zh (take_yes bd l 1 tx hk w h)
 clear h hk
 go_enter Tryz.func67, Tryz.ntmps67
 go_wp2_with fail
 refine HT.out.mono ?_
 rintro e w1 ⟨rfl, hr, hg⟩
 have HR := zh (And.intro hr hg)
 clear hr hg
 go_wp2
 go_ret
 exact ⟨rfl, HR.out⟩
theorem zdF (bd : Nat) (l : List Tq) (tx : ByteArray) (hk : isT 1 tx.data.toList l = false) (w : World) (h : Rd w bd l) :
 Calls Tryz.prog 67 #[.pointer (some ⟨bd, 0, none⟩), .string tx] w fun e w' => e = .returned (.bool false) /\ w = w' := by
 have HT := zh (take_no bd l 1 tx hk w h)
 clear h hk
 go_enter Tryz.func67, Tryz.ntmps67
 go_wp2_with fail
 refine HT.out.mono ?_
 rintro e w1 ⟨rfl, rfl⟩
 go_wp2
 go_ret
 exact ⟨rfl, rfl⟩
theorem zfE (bd : Nat) (s : Tq) (t : List Tq) (hk : s.1 = 1) (w : World) (h : Rd w bd (s :: t)) :
 Calls Tryz.prog 130 #[.pointer (some ⟨bd, 0, none⟩)] w fun e w' => e = .returned (.tuple #[.string ⟨s.2.toArray⟩, .bool true]) /\ Rd w' bd t /\ w.grownBy w' (some bd) := by
 have HT := zh (zef bd s t 1 hk w h)
 clear h hk
 go_enter Tryz.func130, Tryz.ntmps130
 go_wp2_with fail
 refine HT.out.mono ?_
 rintro e w1 ⟨rfl, hr, hg⟩
 have HR := zh (And.intro hr hg)
 clear hr hg
 go_wp2
 go_ret2
 exact ⟨rfl, HR.out⟩
theorem zgE (bd : Nat) (l : List Tq) (hk : isK 1 l = false) (w : World) (h : Rd w bd l) :
 Calls Tryz.prog 130 #[.pointer (some ⟨bd, 0, none⟩)] w fun e w' => e = .returned (.tuple #[.string ⟨#[]⟩, .bool false]) /\ w = w' := by
 have HT := zh (zgD bd l 1 hk w h)
 clear h hk
 go_enter Tryz.func130, Tryz.ntmps130
 go_wp2_with fail
 refine HT.out.mono ?_
 rintro e w1 ⟨rfl, rfl⟩
 go_wp2
 go_ret2
 exact ⟨rfl, rfl⟩
theorem val_at {l : List UInt8} {pos : Nat} {c : UInt8} (h : l[pos]? = some c) (m : Nat) : zc4 m (l.drop pos) = zc4 (m * 10 + (c.toNat - 48)) (l.drop (pos + 1)) := by
 obtain ⟨hp, e⟩ := List.getElem?_eq_some_iff.1 h
 rw [List.drop_eq_getElem_cons hp, e]; rfl
theorem value_any (ds : List UInt8) (hd : ∀ c ∈ ds, digB c = true) (hv : valL ds <= 1000000000000) (hl : ds.length <= 100) (w : World) :
 Calls Tryz.prog 94 #[.string ⟨ds.toArray⟩] w fun e w' => e = .returned (.int .i64 (valL ds : Nat)) /\ Below w.heap.size w w' := by
 obtain ⟨s, hs⟩ : ∃ s : ByteArray, s = ⟨ds.toArray⟩ := ⟨_, rfl⟩
 have hsd : s.data.toList = ds := by rw [hs]
 have hsz : s.size = ds.length := by rw [hs]; simp [ByteArray.size]
 rw [<- hs]
 obtain ⟨V, hV⟩ : ∃ V, valL ds = V := ⟨_, rfl⟩
 have HV := zh hV
 have HSD := zh hsd
 have HSZ := zh hsz
 have HD := zh hd
 rw [hV] at hv ⊢
 have hsz2 : s.size <= 100 := by omega
 clear hV hsd hsz hd hl hs
 go_enter Tryz.func94, Tryz.ntmps94
 go_wp2
 go_loopw [3] (fun v wr => ∃ (pos m : Nat), v = .int .i64 m /\ wr.heap[w.heap.size]? = some (.stringIter s pos) /\ Below w.heap.size w wr /\ Hid (zc4 m (ds.drop pos) = V) /\ pos <= s.size) (fun _ wr => s.size - wr.iterPos w.heap.size)
 case atStart => exact ⟨0, 0, rfl, World.iter_heap w s 0, (Below.refl _ _).alloc (Nat.le_refl _) _, HV.out, Nat.zero_le _⟩
 case round =>
  obtain ⟨pos, m, rfl, hit, hbw, H, hps⟩ := hrel
  have hpos0 := zac hit
  by_cases hp : pos < s.size
  ·obtain ⟨c, hc⟩ : ∃ c, ds[pos]? = some c := ⟨_, List.getElem?_eq_getElem (by rw [<- HSZ.out]; exact hp)⟩
   have hcd : 48 <= c.toNat /\ c.toNat <= 57 := of_decide_eq_true (HD.out c (List.mem_of_getElem? hc))
   have hdec : Utf8.decode s pos = (c.toNat, 1) := by
    have h1 := Lib.decodeL_drop s pos
    rw [HSD.out] at h1
    obtain ⟨hp2, e⟩ := List.getElem?_eq_some_iff.1 hc
    rw [List.drop_eq_getElem_cons hp2, e, zbq c _ (by omega)] at h1
    exact h1.symm
   have hnx : ∀ ty, (Instr.next (.pointer (some ⟨w.heap.size, 0, none⟩)) true ty).run Tryz.prog wr = _ := fun ty => Lib.run_next_any_at wr w.heap.size s pos ty hit hp
   rw [hdec] at hnx
   have hit2 := Lib.iterAt_heap wr w.heap.size s pos (pos + 1) hit
   have hbw2 := Lib.below_iterAt hbw (k := w.heap.size) (Nat.le_refl _) s (pos + 1)
   have H2 := zh (show zc4 (m * 10 + (c.toNat - 48)) (ds.drop (pos + 1)) = V by rw [<- val_at hc]; exact H.out)
   have hm : m * 10 + (c.toNat - 48) <= 1000000000000 := by
    have := zeV (ds.drop (pos + 1)) (m * 10 + (c.toNat - 48))
    rw [H2.out] at this; omega
   obtain ⟨k, hk⟩ : ∃ k, c.toNat = 48 + k := ⟨c.toNat - 48, by omega⟩
   rw [hk] at hnx hm H2
   have hk9 : k <= 9 := by omega
   rw [show 48 + k - 48 = k by omega] at hm H2
   have a1 : IntKind.i64.wrap ((m : Int) * 10) = (m : Int) * 10 := IntWalk.i64_in _ (by omega)
   have a2 : IntKind.i32.wrap (((48 + k : Nat) : Int) - 48) = (k : Int) := by
    rw [show ((48 + k : Nat) : Int) - 48 = (k : Int) by omega]; exact IntWalk.i32_in _ (by omega)
   have a3 : IntKind.i64.wrap ((m : Int) * 10 + (k : Int)) = ((m * 10 + k : Nat) : Int) := by
    rw [IntWalk.i64_in _ (by omega)]; omega
   have a4 : IntKind.i64.wrap (k : Int) = (k : Int) := IntWalk.i64_in _ (by omega)
   clear hdec hcd hc hk
   go_wp2
   go_roundw
   case rel => exact ⟨pos + 1, m * 10 + k, by go_num, hit2, hbw2, H2, by omega⟩
   case measure => rw [zac hit2, hpos0]; omega
  ·have hnx : ∀ ty, (Instr.next (.pointer (some ⟨w.heap.size, 0, none⟩)) true ty).run Tryz.prog wr = _ := fun ty => Lib.run_next_end_at wr w.heap.size s pos ty hit hp
   have H2 : Hid (m = V) := by
    show _ = _
    rw [<- H.out, List.drop_eq_nil_of_le (by rw [<- HSZ.out]; omega)]; rfl
   go_wp2
   go_ret
   exact ⟨by rw [H2.out]; rfl, hbw⟩
theorem zhR {x : Tq} (h : TokOk x) (hk : x.1 = 2 \/ x.1 = 4) : (∀ c ∈ x.2, digB c = true) /\ valL x.2 <= 1000000000000 /\ x.2.length <= 100 := by
 obtain ⟨v, hv, e⟩ := h.dig hk
 rw [e, zcZ]
 exact ⟨zg6 v, hv, by have := zf1 v 13 (by omega) (by decide); omega⟩
theorem zcN (bd : Nat) (s : Tq) (t : List Tq) (k : Nat) (hk : s.1 = k) (hk2 : k = 2 \/ k = 4) (w : World) (h : Rd w bd (s :: t)) :
 Calls Tryz.prog 68 #[.pointer (some ⟨bd, 0, none⟩), .int .i64 (k : Nat)] w fun e w' => e = .returned (.tuple #[.int .i64 (valL s.2 : Nat), .bool true]) /\ Rd w' bd t /\ w.grownBy w' (some bd) := by
 have HT := zh (zef bd s t k hk w h)
 obtain ⟨d1, d2, d3⟩ := zhR (h.ok s (by simp)) (by rw [hk]; exact hk2)
 have HV := zh (fun W => value_any s.2 d1 d2 d3 W)
 clear h hk hk2 d1 d2 d3
 go_enter Tryz.func68, Tryz.ntmps68
 go_wp2_with fail
 refine HT.out.mono ?_
 rintro e w1 ⟨rfl, hr, hg⟩
 have HR := zh hr
 have HG := zh hg
 clear hr hg
 go_wp2_with fail
 refine (HV.out w1).mono ?_
 rintro e w2 ⟨rfl, b2⟩
 have HR2 := zh (HR.out.below b2)
 have HG2 := zh (grown_trans HG.out (grown_of_below b2 _))
 clear b2
 go_wp2
 go_ret2
 exact ⟨rfl, HR2.out, HG2.out⟩
theorem zdx (bd : Nat) (l : List Tq) (k : Nat) (hk : isK k l = false) (w : World) (h : Rd w bd l) :
 Calls Tryz.prog 68 #[.pointer (some ⟨bd, 0, none⟩), .int .i64 (k : Nat)] w fun e w' => e = .returned (.tuple #[.int .i64 0, .bool false]) /\ Rd w' bd l /\ w.grownBy w' (some bd) := by
 have HT := zh (zgD bd l k hk w h)
 have HV := zh (fun W => value_any [] (by simp) (by decide) (by decide) W)
 have HR := zh h
 clear h hk
 go_enter Tryz.func68, Tryz.ntmps68
 go_wp2_with fail
 refine HT.out.mono ?_
 rintro e w1 ⟨rfl, rfl⟩
 go_wp2_with fail
 refine (HV.out w).mono ?_
 rintro e w2 ⟨rfl, b2⟩
 have HR2 := zh (HR.out.below b2)
 have HG2 := zh (grown_of_below b2 (some bd))
 clear b2
 go_wp2
 go_ret2
 exact ⟨rfl, HR2.out, HG2.out⟩
end Go.Proofs.YtbcemjhaecelnaaGreatDoor.Par
end
end
