import Derived.Test.YtbcemjhaecelnaaGreatDoorMg23
import Derived.Lib.BufferKept
section
set_option maxHeartbeats 8000000
set_option maxRecDepth 100000
section
namespace Go.Proofs.YtbcemjhaecelnaaGreatDoor.Par
open Go.RowKit Go.Lib
open Go.Proofs.YtbcemjhaecelnaaGreatDoor.Sto
structure Pen (W0 : World) (b : Nat) (acc : List UInt8) (w : World) : Prop where
 env : Env W0
 bel : Below W0.heap.size W0 w
 bld : Lib.IsBuilderF 63 5 W0.heap.size b (Lib.byteCells acc) w
theorem Pen.lt {W0 w : World} {b : Nat} {acc : List UInt8} (h : Pen W0 b acc w) : b < w.heap.size := h.bld.elim (fun h => h.lt) (fun h => h.lt)
theorem builder_below {T e : TypeId} {B b : Nat} {bs : List Value} {W W' : World} (h : Lib.IsBuilderF T e B b bs W) (hb : Below W.heap.size W W') : Lib.IsBuilderF T e B b bs W' := by
 have key : ∀ p, Lib.BuilderAtF T e B b p bs W -> Lib.BuilderAtF T e B b p bs W' := by
  intro p h
  have hlt := h.lt
  obtain ⟨hB, v, hv, hown, hne⟩ := h
  exact ⟨hB, v, (hb.block b hlt).trans hv, hown.kept (row := none) ⟨hb.os, hb.tape, hb.output, hb.size, fun k hk _ => hb.block k hk⟩ (Classical.em _), hne⟩
 exact h.elim (fun x => .inl (key _ x)) (fun x => .inr (key _ x))
theorem Pen.below {W0 w w' : World} {b : Nat} {acc : List UInt8} (h : Pen W0 b acc w) (hb : Below w.heap.size w w') : Pen W0 b acc w' :=
 ⟨h.env, h.bel.trans (hb.mono h.bel.size), builder_below h.bld hb⟩
theorem Pen.alloc {W0 w : World} {b : Nat} {acc : List UInt8} (h : Pen W0 b acc w) (o : Obj) : Pen W0 b acc (w.alloc o) := h.below ((Below.refl _ _).alloc (Nat.le_refl _) _)
def ziH (W0 : World) (b : Nat) (acc t : List UInt8) (w : World) (e : Ending) (w' : World) : Prop := e = .returned (.tuple #[]) /\ Pen W0 b (acc ++ t) w' /\ Lib.OthersKept 5 (some b) w w'
theorem zbv {w w' : World} (b : Option Nat) (h : Below w.heap.size w w') : Lib.OthersKept 5 b w w' := Lib.OthersKept.below (Lib.OthersKept.refl _ b w) h
theorem zia {W0 w : World} {b : Nat} {acc : List UInt8} (s : ByteArray) (h : Pen W0 b acc w) (hl : acc.length + s.size <= 100000000000000) :
 Calls Tryz.prog 32 #[.pointer (some ⟨b, 0, none⟩), .string s] w fun e w' => e = .returned (.tuple #[.int .i64 s.size, .nilIface]) /\ Pen W0 b (acc ++ s.data.toList) w' /\ Lib.OthersKept 5 (some b) w w' := by
 refine (Tryz.Builder_WriteString_k W0.heap.size b _ s w h.bld (by rw [Lib.byteCells_length]; omega) h.bel.size).mono ?_
 rintro e w1 ⟨rfl, h1, b1, k1⟩
 exact ⟨rfl, ⟨h.env, h.bel.trans b1, by rw [Lib.byteCells_append]; exact .inr h1⟩, k1⟩
theorem zei {W0 w : World} {b : Nat} {acc : List UInt8} (c : UInt8) (h : Pen W0 b acc w) (hl : acc.length + 1 <= 100000000000000) :
 Calls Tryz.prog 75 #[.pointer (some ⟨b, 0, none⟩), .int .u8 c.toNat] w fun e w' => e = .returned .nilIface /\ Pen W0 b (acc ++ [c]) w' /\ Lib.OthersKept 5 (some b) w w' := by
 refine (Tryz.Builder_WriteByte_k W0.heap.size b _ c.toNat w h.bld (by rw [Lib.byteCells_length]; omega) h.bel.size).mono ?_
 rintro e w1 ⟨rfl, h1, b1, k1⟩
 exact ⟨rfl, ⟨h.env, h.bel.trans b1, by rw [Lib.byteCells_append]; exact .inr h1⟩, k1⟩
theorem Pen.envW {W0 w : World} {b : Nat} {acc : List UInt8} (h : Pen W0 b acc w) : Env w := h.env.below h.bel
theorem itoaP {W0 w : World} {b : Nat} {acc : List UInt8} (n : Nat) (hn : n <= 1000000000000) (h : Pen W0 b acc w) : Calls Tryz.prog 33 #[.int .i64 (n : Nat)] w fun e w' => e = .returned (.string ⟨(Lib.decDigits n).toArray⟩) /\ Pen W0 b acc w' /\ Lib.OthersKept 5 (some b) w w' :=
 (zgY n (by omega) w h.envW).mono fun e w' ⟨he, hb⟩ => ⟨he, h.below hb, zbv _ hb⟩
theorem zfK {b : Nat} {w w' : World} (h : Lib.OthersKept 5 (some b) w w') {k T : Nat} {cs : Array Value} (hk : w.heap[k]? = some (.cells cs T (0, 0))) (hT : T ≠ 5) (hkb : k ≠ b) : w'.heap[k]? = some (.cells cs T (0, 0)) :=
 h k _ hk (fun e => hkb (Option.some.inj e)) (fun c fz e => by injection e with _ e _; exact hT e)
theorem Nod.view {w : World} {P : Nat -> Prop} {a b : ByteArray} {z m : Int} {o1 : Option Addr} {k1 c1 : Nat} {o2 : Option Addr} {k2 c2 : Nat} {o3 : Option Addr} {k3 c3 : Nat} {x : Ex} (h : Nod w P [.string a, .string b, .int .i64 z, .int .i64 m, .slice o1 k1 c1, .slice o2 k2 c2, .slice o3 k3 c3] x) :
 (a = opE x /\ b = zfC x /\ z = nE x /\ m = zfD x) /\ ((zb7 x).length = k1 /\ (zcD x).length = k2 /\ (zaO x).length = k3) /\ za2 w P o1 1 ((zb7 x).map encN) /\ za2 w P o2 3 ((zcD x).map encM) /\ ∃ css : List (List Value), css.length = k3 /\ za2 w P o3 7 css /\ ∀ (j : Nat) cs y, css[j]? = some cs -> (zaO x)[j]? = some y -> Nod w P cs y := by
 obtain ⟨cs, hcs⟩ : ∃ cs : List Value, [.string a, .string b, .int .i64 z, .int .i64 m, .slice o1 k1 c1, .slice o2 k2 c2, .slice o3 k3 c3] = cs := ⟨_, rfl⟩
 rw [hcs] at h
 cases h with
 | mk x n m o1' o2' o3' k1' c1' k2' c2' k3' c3' css hn hm h1 h2 h3 h4 s1 s2 s3 hk =>
   injection hcs with ea e; injection e with eb e; injection e with ez e; injection e with em e; injection e with e1 e; injection e with e2 e; injection e with e3 _
   injection ea with ea; injection eb with eb; injection ez with _ ez; injection em with _ em
   injection e1 with e11 e12 _; injection e2 with e21 e22 _; injection e3 with e31 e32 _
   subst e11; subst e12; subst e21; subst e22; subst e31; subst e32
   exact ⟨⟨ea, eb, ez.trans hn, em.trans hm⟩, ⟨h1.1, h2, h3⟩, s1, s2, css, h4, s3, hk⟩
theorem Nod.cap {w : World} {P : Nat -> Prop} {a b : ByteArray} {z m : Int} {o1 : Option Addr} {k1 c1 : Nat} {o2 : Option Addr} {k2 c2 : Nat} {o3 : Option Addr} {k3 c3 : Nat} {x : Ex} (h : Nod w P [.string a, .string b, .int .i64 z, .int .i64 m, .slice o1 k1 c1, .slice o2 k2 c2, .slice o3 k3 c3] x) : k1 <= c1 := by
 cases h with
 | mk x n m o1' o2' o3' k1' c1' k2' c2' k3' c3' css hn hm h1 h2 h3 h4 s1 s2 s3 hk => exact h1.2
def tagE : Ex -> TypeId
 | .num _ => 92
 | .neg _ => 94
 | .bin .. => 97
 | .agg .. => 99
 | .fn .. => 101
 | .sel .. => 104
theorem is_num (v : Value) (W : World) : (Instr.typeAssert (.iface 92 v) 65 92 true).run Tryz.prog W = .ok (.tuple #[v, .bool true]) W := by kernel_rfl
theorem zfl (v : Value) (W : World) : (Instr.typeAssert (.iface 92 v) 65 94 true).run Tryz.prog W = .ok (.tuple #[.agg #[.string ⟨#[]⟩, .string ⟨#[]⟩, .int .i64 0, .int .i64 0, .slice none 0 0, .slice none 0 0, .slice none 0 0], .bool false]) W := by kernel_rfl
theorem zfm (v : Value) (W : World) : (Instr.typeAssert (.iface 92 v) 65 97 true).run Tryz.prog W = .ok (.tuple #[.agg #[.string ⟨#[]⟩, .string ⟨#[]⟩, .int .i64 0, .int .i64 0, .slice none 0 0, .slice none 0 0, .slice none 0 0], .bool false]) W := by kernel_rfl
theorem no_num_agg (v : Value) (W : World) : (Instr.typeAssert (.iface 92 v) 65 99 true).run Tryz.prog W = .ok (.tuple #[.agg #[.string ⟨#[]⟩, .string ⟨#[]⟩, .int .i64 0, .int .i64 0, .slice none 0 0, .slice none 0 0, .slice none 0 0], .bool false]) W := by kernel_rfl
theorem no_num_fn (v : Value) (W : World) : (Instr.typeAssert (.iface 92 v) 65 101 true).run Tryz.prog W = .ok (.tuple #[.agg #[.string ⟨#[]⟩, .string ⟨#[]⟩, .int .i64 0, .int .i64 0, .slice none 0 0, .slice none 0 0, .slice none 0 0], .bool false]) W := by kernel_rfl
theorem no_num_sel (v : Value) (W : World) : (Instr.typeAssert (.iface 92 v) 65 104 true).run Tryz.prog W = .ok (.tuple #[.agg #[.string ⟨#[]⟩, .string ⟨#[]⟩, .int .i64 0, .int .i64 0, .slice none 0 0, .slice none 0 0, .slice none 0 0], .bool false]) W := by kernel_rfl
theorem no_neg_num (v : Value) (W : World) : (Instr.typeAssert (.iface 94 v) 65 92 true).run Tryz.prog W = .ok (.tuple #[.agg #[.string ⟨#[]⟩, .string ⟨#[]⟩, .int .i64 0, .int .i64 0, .slice none 0 0, .slice none 0 0, .slice none 0 0], .bool false]) W := by kernel_rfl
theorem zi9 (v : Value) (W : World) : (Instr.typeAssert (.iface 94 v) 65 94 true).run Tryz.prog W = .ok (.tuple #[v, .bool true]) W := by kernel_rfl
theorem no_neg_bin (v : Value) (W : World) : (Instr.typeAssert (.iface 94 v) 65 97 true).run Tryz.prog W = .ok (.tuple #[.agg #[.string ⟨#[]⟩, .string ⟨#[]⟩, .int .i64 0, .int .i64 0, .slice none 0 0, .slice none 0 0, .slice none 0 0], .bool false]) W := by kernel_rfl
theorem no_neg_agg (v : Value) (W : World) : (Instr.typeAssert (.iface 94 v) 65 99 true).run Tryz.prog W = .ok (.tuple #[.agg #[.string ⟨#[]⟩, .string ⟨#[]⟩, .int .i64 0, .int .i64 0, .slice none 0 0, .slice none 0 0, .slice none 0 0], .bool false]) W := by kernel_rfl
theorem no_neg_fn (v : Value) (W : World) : (Instr.typeAssert (.iface 94 v) 65 101 true).run Tryz.prog W = .ok (.tuple #[.agg #[.string ⟨#[]⟩, .string ⟨#[]⟩, .int .i64 0, .int .i64 0, .slice none 0 0, .slice none 0 0, .slice none 0 0], .bool false]) W := by kernel_rfl
theorem no_neg_sel (v : Value) (W : World) : (Instr.typeAssert (.iface 94 v) 65 104 true).run Tryz.prog W = .ok (.tuple #[.agg #[.string ⟨#[]⟩, .string ⟨#[]⟩, .int .i64 0, .int .i64 0, .slice none 0 0, .slice none 0 0, .slice none 0 0], .bool false]) W := by kernel_rfl
theorem no_bin_num (v : Value) (W : World) : (Instr.typeAssert (.iface 97 v) 65 92 true).run Tryz.prog W = .ok (.tuple #[.agg #[.string ⟨#[]⟩, .string ⟨#[]⟩, .int .i64 0, .int .i64 0, .slice none 0 0, .slice none 0 0, .slice none 0 0], .bool false]) W := by kernel_rfl
theorem zfn (v : Value) (W : World) : (Instr.typeAssert (.iface 97 v) 65 94 true).run Tryz.prog W = .ok (.tuple #[.agg #[.string ⟨#[]⟩, .string ⟨#[]⟩, .int .i64 0, .int .i64 0, .slice none 0 0, .slice none 0 0, .slice none 0 0], .bool false]) W := by kernel_rfl
theorem ziA (v : Value) (W : World) : (Instr.typeAssert (.iface 97 v) 65 97 true).run Tryz.prog W = .ok (.tuple #[v, .bool true]) W := by kernel_rfl
theorem no_bin_agg (v : Value) (W : World) : (Instr.typeAssert (.iface 97 v) 65 99 true).run Tryz.prog W = .ok (.tuple #[.agg #[.string ⟨#[]⟩, .string ⟨#[]⟩, .int .i64 0, .int .i64 0, .slice none 0 0, .slice none 0 0, .slice none 0 0], .bool false]) W := by kernel_rfl
theorem no_bin_fn (v : Value) (W : World) : (Instr.typeAssert (.iface 97 v) 65 101 true).run Tryz.prog W = .ok (.tuple #[.agg #[.string ⟨#[]⟩, .string ⟨#[]⟩, .int .i64 0, .int .i64 0, .slice none 0 0, .slice none 0 0, .slice none 0 0], .bool false]) W := by kernel_rfl
theorem no_bin_sel (v : Value) (W : World) : (Instr.typeAssert (.iface 97 v) 65 104 true).run Tryz.prog W = .ok (.tuple #[.agg #[.string ⟨#[]⟩, .string ⟨#[]⟩, .int .i64 0, .int .i64 0, .slice none 0 0, .slice none 0 0, .slice none 0 0], .bool false]) W := by kernel_rfl
theorem no_agg_neg (v : Value) (W : World) : (Instr.typeAssert (.iface 99 v) 65 94 true).run Tryz.prog W = .ok (.tuple #[.agg #[.string ⟨#[]⟩, .string ⟨#[]⟩, .int .i64 0, .int .i64 0, .slice none 0 0, .slice none 0 0, .slice none 0 0], .bool false]) W := by kernel_rfl
theorem no_agg_bin (v : Value) (W : World) : (Instr.typeAssert (.iface 99 v) 65 97 true).run Tryz.prog W = .ok (.tuple #[.agg #[.string ⟨#[]⟩, .string ⟨#[]⟩, .int .i64 0, .int .i64 0, .slice none 0 0, .slice none 0 0, .slice none 0 0], .bool false]) W := by kernel_rfl
theorem no_fn_neg (v : Value) (W : World) : (Instr.typeAssert (.iface 101 v) 65 94 true).run Tryz.prog W = .ok (.tuple #[.agg #[.string ⟨#[]⟩, .string ⟨#[]⟩, .int .i64 0, .int .i64 0, .slice none 0 0, .slice none 0 0, .slice none 0 0], .bool false]) W := by kernel_rfl
theorem no_fn_bin (v : Value) (W : World) : (Instr.typeAssert (.iface 101 v) 65 97 true).run Tryz.prog W = .ok (.tuple #[.agg #[.string ⟨#[]⟩, .string ⟨#[]⟩, .int .i64 0, .int .i64 0, .slice none 0 0, .slice none 0 0, .slice none 0 0], .bool false]) W := by kernel_rfl
theorem no_sel_neg (v : Value) (W : World) : (Instr.typeAssert (.iface 104 v) 65 94 true).run Tryz.prog W = .ok (.tuple #[.agg #[.string ⟨#[]⟩, .string ⟨#[]⟩, .int .i64 0, .int .i64 0, .slice none 0 0, .slice none 0 0, .slice none 0 0], .bool false]) W := by kernel_rfl
theorem no_sel_bin (v : Value) (W : World) : (Instr.typeAssert (.iface 104 v) 65 97 true).run Tryz.prog W = .ok (.tuple #[.agg #[.string ⟨#[]⟩, .string ⟨#[]⟩, .int .i64 0, .int .i64 0, .slice none 0 0, .slice none 0 0, .slice none 0 0], .bool false]) W := by kernel_rfl
theorem zfo (x : Ex) (b : ByteArray) (z m : Int) (o1 : Option Addr) (k1 c1 : Nat) (o2 : Option Addr) (k2 c2 : Nat) (o3 : Option Addr) (k3 c3 : Nat) (w : World) :
 Calls Tryz.prog 31 #[.agg #[.string (opE x), .string b, .int .i64 z, .int .i64 m, .slice o1 k1 c1, .slice o2 k2 c2, .slice o3 k3 c3]] w fun e w' => e = .returned (.iface (tagE x) (.agg #[.string (opE x), .string b, .int .i64 z, .int .i64 m, .slice o1 k1 c1, .slice o2 k2 c2, .slice o3 k3 c3])) /\ Below w.heap.size w w' := by
 cases x <;> simp only [opE, tagE] <;>
 ·go_enter Tryz.func31, Tryz.ntmps31
  go_wp2
  go_ret
  exact ⟨rfl, (Below.refl _ _).alloc (Nat.le_refl _) _⟩
theorem hasSign_any (x : Ex) (a b : ByteArray) (z m : Int) (o1 : Option Addr) (k1 c1 : Nat) (o2 : Option Addr) (k2 c2 : Nat) (o3 : Option Addr) (k3 c3 : Nat) (w : World) :
 Calls Tryz.prog 100 #[.iface (tagE x) (.agg #[.string a, .string b, .int .i64 z, .int .i64 m, .slice o1 k1 c1, .slice o2 k2 c2, .slice o3 k3 c3])] w fun e w' => e = .returned (.bool (hasS x)) /\ Below w.heap.size w w' := by
 have HV := zh (fun (ys : Array Value) (v : Value) (hv : v = .agg ys) => hv)
 cases x <;> simp only [tagE, hasS]
 ·have T1 := zfl
  have T2 := zfm
  go_enter Tryz.func100, Tryz.ntmps100
  go_wp2
  go_ret
  exact ⟨rfl, ((Below.refl _ _).alloc (Nat.le_refl _) _).alloc (by simp) _⟩
 ·have T1 := zi9
  go_enter Tryz.func100, Tryz.ntmps100
  go_wp2
  go_ret
  exact ⟨rfl, (Below.refl _ _).alloc (Nat.le_refl _) _⟩
 ·have T1 := zfn
  have T2 := ziA
  go_enter Tryz.func100, Tryz.ntmps100
  go_wp2
  go_ret
  exact ⟨rfl, ((Below.refl _ _).alloc (Nat.le_refl _) _).alloc (by simp) _⟩
 ·have T1 := no_agg_neg
  have T2 := no_agg_bin
  go_enter Tryz.func100, Tryz.ntmps100
  go_wp2
  go_ret
  exact ⟨rfl, ((Below.refl _ _).alloc (Nat.le_refl _) _).alloc (by simp) _⟩
 ·have T1 := no_fn_neg
  have T2 := no_fn_bin
  go_enter Tryz.func100, Tryz.ntmps100
  go_wp2
  go_ret
  exact ⟨rfl, ((Below.refl _ _).alloc (Nat.le_refl _) _).alloc (by simp) _⟩
 ·have T1 := no_sel_neg
  have T2 := no_sel_bin
  go_enter Tryz.func100, Tryz.ntmps100
  go_wp2
  go_ret
  exact ⟨rfl, ((Below.refl _ _).alloc (Nat.le_refl _) _).alloc (by simp) _⟩
end Go.Proofs.YtbcemjhaecelnaaGreatDoor.Par
end
section
namespace Go.Proofs.YtbcemjhaecelnaaGreatDoor.Par
open Go.RowKit Go.Lib
open Go.Proofs.YtbcemjhaecelnaaGreatDoor.Sto
def zfp (x : Ex) : Prop := ∀ (W0 w : World) (P : Nat -> Prop) (b : Nat) (acc : List UInt8) (a tx : ByteArray) (z m : Int) (o1 : Option Addr) (k1 c1 : Nat) (o2 : Option Addr) (k2 c2 : Nat) (o3 : Option Addr) (k3 c3 : Nat), Nod W0 P [.string a, .string tx, .int .i64 z, .int .i64 m, .slice o1 k1 c1, .slice o2 k2 c2, .slice o3 k3 c3] x -> Pen W0 b acc w -> acc.length + (zbQ x).length <= 100000000000000 -> Calls Tryz.prog 30 #[.pointer (some ⟨b, 0, none⟩), .iface (tagE x) (.agg #[.string a, .string tx, .int .i64 z, .int .i64 m, .slice o1 k1 c1, .slice o2 k2 c2, .slice o3 k3 c3])] w (ziH W0 b acc (zbQ x) w)
def OwnC (f : Nat) (x : Ex) : Prop := ∀ (W0 w : World) (P : Nat -> Prop) (b : Nat) (acc : List UInt8) (a tx : ByteArray) (z m : Int) (o1 : Option Addr) (k1 c1 : Nat) (o2 : Option Addr) (k2 c2 : Nat) (o3 : Option Addr) (k3 c3 : Nat), Nod W0 P [.string a, .string tx, .int .i64 z, .int .i64 m, .slice o1 k1 c1, .slice o2 k2 c2, .slice o3 k3 c3] x -> Pen W0 b acc w -> acc.length + (zbQ x).length <= 100000000000000 -> Calls Tryz.prog f #[.agg #[.string a, .string tx, .int .i64 z, .int .i64 m, .slice o1 k1 c1, .slice o2 k2 c2, .slice o3 k3 c3], .pointer (some ⟨b, 0, none⟩)] w (ziH W0 b acc (zbQ x) w)
def KidC (x : Ex) : Prop := ∀ (W0 w : World) (P : Nat -> Prop) (b : Nat) (acc : List UInt8) (a tx : ByteArray) (z m : Int) (o1 : Option Addr) (k1 c1 : Nat) (o2 : Option Addr) (k2 c2 : Nat) (o3 : Option Addr) (k3 c3 : Nat), Nod W0 P [.string a, .string tx, .int .i64 z, .int .i64 m, .slice o1 k1 c1, .slice o2 k2 c2, .slice o3 k3 c3] x -> Pen W0 b acc w -> acc.length + (kidL x).length <= 100000000000000 -> Calls Tryz.prog 76 #[.pointer (some ⟨b, 0, none⟩), .agg #[.string a, .string tx, .int .i64 z, .int .i64 m, .slice o1 k1 c1, .slice o2 k2 c2, .slice o3 k3 c3]] w (ziH W0 b acc (kidL x) w)
theorem zib {w : World} {k T : Nat} {a b c d e f g : Value} (h : w.heap[k]? = some (.cells #[a, b, c, d, e, f, g] T (0, 0))) : w.cell? ⟨k, 0, none⟩ = some a /\ w.cell? ⟨k, 1, none⟩ = some b /\ w.cell? ⟨k, 2, none⟩ = some c /\ w.cell? ⟨k, 3, none⟩ = some d /\ w.cell? ⟨k, 4, none⟩ = some e /\ w.cell? ⟨k, 5, none⟩ = some f /\ w.cell? ⟨k, 6, none⟩ = some g := by
 refine ⟨?_, ?_, ?_, ?_, ?_, ?_, ?_⟩ <;> simp [World.cell?, h]
theorem size_arr (l : List UInt8) : (⟨l.toArray⟩ : ByteArray).size = l.length := by simp [ByteArray.size]
theorem zcj (b : Nat) (w : World) : Lib.OthersKept 5 (some b) w w := Lib.OthersKept.refl _ _ w
theorem write_neg (y : Ex) (H : OwnC 53 (.neg y)) : zfp (.neg y) := by
 intro W0 w P b acc a tx z m o1 k1 c1 o2 k2 c2 o3 k3 c3 hn hp hf
 have HC := zh (H W0 ((w.alloc (Obj.cells #[.string ⟨#[]⟩, .string ⟨#[]⟩, .int .i64 0, .int .i64 0, .slice none 0 0, .slice none 0 0, .slice none 0 0] 92)).alloc (Obj.cells #[.string a, .string tx, .int .i64 z, .int .i64 m, .slice o1 k1 c1, .slice o2 k2 c2, .slice o3 k3 c3] 94)) P b acc a tx z m o1 k1 c1 o2 k2 c2 o3 k3 c3 hn ((hp.alloc _).alloc _) hf)
 have HP := zh hp
 simp only [tagE]
 have T0 := no_neg_num
 have T1 := zi9
 have T2 := no_neg_bin
 have T3 := no_neg_agg
 have T4 := no_neg_fn
 have T5 := no_neg_sel
 clear hn hp hf H
 go_enter Tryz.func30, Tryz.ntmps30
 go_wp2_with fail
 refine HC.out.mono ?_
 rintro e w1 ⟨rfl, hp1, hk1⟩
 have HP1 := zh hp1
 have HK1 := zh hk1
 clear hp1 hk1
 go_wp2
 first | go_end0 | ((try simp only [Exit.inBlock, Exit.then]); refine bodyPost_ret (results_none rfl _ _ _) rfl ?_)
 have hp1 := HP1.out
 have hk1 := HK1.out
 exact ⟨rfl, ((((hp1.alloc _).alloc _).alloc _).alloc _), ((((((((zcj b w).alloc _).alloc _).trans hk1).alloc _).alloc _).alloc _).alloc _)⟩
theorem write_bin (op : ByteArray) (mode : Nat) (names : List ByteArray) (l r : Ex) (H : OwnC 54 (.bin op mode names l r)) : zfp (.bin op mode names l r) := by
 intro W0 w P b acc a tx z m o1 k1 c1 o2 k2 c2 o3 k3 c3 hn hp hf
 have HC := zh (H W0 (((w.alloc (Obj.cells #[.string ⟨#[]⟩, .string ⟨#[]⟩, .int .i64 0, .int .i64 0, .slice none 0 0, .slice none 0 0, .slice none 0 0] 92)).alloc (Obj.cells #[.string ⟨#[]⟩, .string ⟨#[]⟩, .int .i64 0, .int .i64 0, .slice none 0 0, .slice none 0 0, .slice none 0 0] 94)).alloc (Obj.cells #[.string a, .string tx, .int .i64 z, .int .i64 m, .slice o1 k1 c1, .slice o2 k2 c2, .slice o3 k3 c3] 97)) P b acc a tx z m o1 k1 c1 o2 k2 c2 o3 k3 c3 hn (((hp.alloc _).alloc _).alloc _) hf)
 have HP := zh hp
 simp only [tagE]
 have T0 := no_bin_num
 have T1 := zfn
 have T2 := ziA
 have T3 := no_bin_agg
 have T4 := no_bin_fn
 have T5 := no_bin_sel
 clear hn hp hf H
 go_enter Tryz.func30, Tryz.ntmps30
 go_wp2_with fail
 refine HC.out.mono ?_
 rintro e w1 ⟨rfl, hp1, hk1⟩
 have HP1 := zh hp1
 have HK1 := zh hk1
 clear hp1 hk1
 go_wp2
 first | go_end0 | ((try simp only [Exit.inBlock, Exit.then]); refine bodyPost_ret (results_none rfl _ _ _) rfl ?_)
 have hp1 := HP1.out
 have hk1 := HK1.out
 exact ⟨rfl, (((hp1.alloc _).alloc _).alloc _), ((((((((zcj b w).alloc _).alloc _).alloc _).trans hk1).alloc _).alloc _).alloc _)⟩
theorem write_num (n : Nat) (hn1 : n <= 1000000000000) : zfp (.num n) := by
 intro W0 w P b acc a tx z m o1 k1 c1 o2 k2 c2 o3 k3 c3 hn hp hf
 have hz := hn.view.1.2.2.1
 simp only [nE] at hz
 subst hz
 have HC := zh (itoaP (w := (w.alloc (Obj.cells #[.string a, .string tx, .int .i64 (n : Nat), .int .i64 m, .slice o1 k1 c1, .slice o2 k2 c2, .slice o3 k3 c3] 92))) n hn1 (hp.alloc _))
 have HF := zh (show acc.length + (⟨(Lib.decDigits n).toArray⟩ : ByteArray).size <= 100000000000000 by rw [size_arr]; exact hf)
 simp only [tagE]
 have T0 := is_num
 have T1 := zfl
 have T2 := zfm
 have T3 := no_num_agg
 have T4 := no_num_fn
 have T5 := no_num_sel
 clear hn hp hf
 go_enter Tryz.func30, Tryz.ntmps30
 go_wp2_with fail
 refine HC.out.mono ?_
 rintro e w1 ⟨rfl, hp1, hk1⟩
 have HK1 := zh hk1
 have HS := zh (zia ⟨(Lib.decDigits n).toArray⟩ hp1 HF.out)
 clear hp1 hk1
 go_wp2_with fail
 refine HS.out.mono ?_
 rintro e w2 ⟨rfl, hp2, hk2⟩
 have HP2 := zh hp2
 have HK2 := zh hk2
 clear hp2 hk2
 go_wp2
 first | go_end0 | ((try simp only [Exit.inBlock, Exit.then]); refine bodyPost_ret (results_none rfl _ _ _) rfl ?_)
 have hp2 := HP2.out
 have hk2 := HK2.out
 exact ⟨rfl, (((((hp2.alloc _).alloc _).alloc _).alloc _).alloc _), (((((((((zcj b w).alloc _).trans HK1.out).trans hk2).alloc _).alloc _).alloc _).alloc _).alloc _)⟩
theorem zic (x : Ex) (H : zfp x) : KidC x := by
 intro W0 w P b acc a tx z m o1 k1 c1 o2 k2 c2 o3 k3 c3 hn hp hf
 have ha := hn.view.1.1
 subst ha
 have H1 := zh (zfo x tx z m o1 k1 c1 o2 k2 c2 o3 k3 c3 (w.alloc (Obj.cells #[.string (opE x), .string tx, .int .i64 z, .int .i64 m, .slice o1 k1 c1, .slice o2 k2 c2, .slice o3 k3 c3] 27)))
 have H2 := zh (fun W => hasSign_any x (opE x) tx z m o1 k1 c1 o2 k2 c2 o3 k3 c3 W)
 have H3 := zh (fun W acc2 (hp : Pen W0 b acc2 W) hf => H W0 W P b acc2 (opE x) tx z m o1 k1 c1 o2 k2 c2 o3 k3 c3 hn hp hf)
 have HP := zh (hp.alloc (Obj.cells #[.string (opE x), .string tx, .int .i64 z, .int .i64 m, .slice o1 k1 c1, .slice o2 k2 c2, .slice o3 k3 c3] 27))
 have HK := zh ((zcj b w).alloc (Obj.cells #[.string (opE x), .string tx, .int .i64 z, .int .i64 m, .slice o1 k1 c1, .slice o2 k2 c2, .slice o3 k3 c3] 27))
 unfold kidL at hf ⊢
 generalize opE x = a at H1 H2 H3 HP HK ⊢
 generalize tagE x = T at H1 H2 H3 ⊢
 generalize zbQ x = L at H3 hf ⊢
 generalize hasS x = S at H2 hf ⊢
 clear hn hp H
 cases S with
 | false =>
   simp only [Bool.false_eq_true, if_false] at hf ⊢
   have HF := zh hf
   clear hf
   go_enter Tryz.func76, Tryz.ntmps76
   go_wp2_with fail
   refine H1.out.mono ?_
   rintro e w1 ⟨rfl, b1⟩
   have HP1 := zh (HP.out.below b1)
   have HK1 := zh (HK.out.trans (zbv (some b) b1))
   clear b1
   go_wp2_with fail
   refine (H2.out w1).mono ?_
   rintro e w2 ⟨rfl, b2⟩
   have HP2 := zh (HP1.out.below b2)
   have HK2 := zh (HK1.out.trans (zbv (some b) b2))
   clear b2
   go_wp2_with fail
   refine (H3.out w2 acc HP2.out HF.out).mono ?_
   rintro e w3 ⟨rfl, hp3, hk3⟩
   have HP3 := zh hp3
   have HK3 := zh (HK2.out.trans hk3)
   clear hp3 hk3
   go_wp2
   first | go_end0 | ((try simp only [Exit.inBlock, Exit.then]); refine bodyPost_ret (results_none rfl _ _ _) rfl ?_)
   exact ⟨rfl, HP3.out, HK3.out⟩
 | true =>
   simp only [if_true] at hf ⊢
   have HF := zh hf
   have HF0 := zh (show acc.length + 1 <= 100000000000000 by rw [List.length_cons] at hf; omega)
   have HF1 := zh (show (acc ++ [40]).length + L.length <= 100000000000000 by simp at hf ⊢; omega)
   have HF2 := zh (show (acc ++ [40] ++ L).length + 1 <= 100000000000000 by simp at hf ⊢; omega)
   have HE := zh (show acc ++ [40] ++ L ++ [41] = acc ++ 40 :: (L ++ [41]) by simp)
   clear hf
   go_enter Tryz.func76, Tryz.ntmps76
   go_wp2_with fail
   refine H1.out.mono ?_
   rintro e w1 ⟨rfl, b1⟩
   have HP1 := zh (HP.out.below b1)
   have HK1 := zh (HK.out.trans (zbv (some b) b1))
   clear b1
   go_wp2_with fail
   refine (H2.out w1).mono ?_
   rintro e w2 ⟨rfl, b2⟩
   have HP2 := zh (HP1.out.below b2)
   have HK2 := zh (HK1.out.trans (zbv (some b) b2))
   clear b2
   go_wp2_with fail
   refine (zei 40 HP2.out HF0.out).mono ?_
   rintro e w3 ⟨rfl, hp3, hk3⟩
   have HP3 := zh hp3
   have HK3 := zh (HK2.out.trans hk3)
   clear hp3 hk3
   go_wp2_with fail
   refine (H3.out w3 _ HP3.out HF1.out).mono ?_
   rintro e w4 ⟨rfl, hp4, hk4⟩
   have HP4 := zh hp4
   have HK4 := zh (HK3.out.trans hk4)
   clear hp4 hk4
   go_wp2_with fail
   refine (zei 41 HP4.out HF2.out).mono ?_
   rintro e w5 ⟨rfl, hp5, hk5⟩
   have HP5 := zh (show Pen W0 b (acc ++ 40 :: (L ++ [41])) w5 by rw [<- HE.out]; exact hp5)
   have HK5 := zh (HK4.out.trans hk5)
   clear hp5 hk5
   go_wp2
   first | go_end0 | ((try simp only [Exit.inBlock, Exit.then]); refine bodyPost_ret (results_none rfl _ _ _) rfl ?_)
   exact ⟨rfl, HP5.out, HK5.out⟩
end Go.Proofs.YtbcemjhaecelnaaGreatDoor.Par
end
section
namespace Go.Proofs.YtbcemjhaecelnaaGreatDoor.Par
open Go.RowKit Go.Lib
open Go.Proofs.YtbcemjhaecelnaaGreatDoor.Sto
theorem zgG {W0 : World} {P : Nat -> Prop} {o3 : Option Addr} {css : List (List Value)} {x : Ex} (hs : za2 W0 P o3 7 css) (hk : ∀ (j : Nat) cs y, css[j]? = some cs -> (zaO x)[j]? = some y -> Nod W0 P cs y) (hl : css.length = (zaO x).length) (j : Nat) (y : Ex) (hy : (zaO x)[j]? = some y) :
 ∃ bb off, o3 = some ⟨bb, off, none⟩ /\ bb < W0.heap.size /\ ∃ a b z m p j' d s t u v x' y', Nod W0 P [.string a, .string b, .int .i64 z, .int .i64 m, .slice p j' d, .slice s t u, .slice v x' y'] y /\
  W0.cell? ⟨bb, off + j * 7, none⟩ = some (.string a) /\ W0.cell? ⟨bb, off + j * 7 + 1, none⟩ = some (.string b) /\ W0.cell? ⟨bb, off + j * 7 + 2, none⟩ = some (.int .i64 z) /\ W0.cell? ⟨bb, off + j * 7 + 3, none⟩ = some (.int .i64 m) /\ W0.cell? ⟨bb, off + j * 7 + 4, none⟩ = some (.slice p j' d) /\ W0.cell? ⟨bb, off + j * 7 + 5, none⟩ = some (.slice s t u) /\ W0.cell? ⟨bb, off + j * 7 + 6, none⟩ = some (.slice v x' y') := by
 have hj : j < css.length := by rw [hl]; exact (List.getElem?_eq_some_iff.1 hy).1
 obtain ⟨cs, hcs⟩ : ∃ cs, css[j]? = some cs := ⟨_, List.getElem?_eq_getElem hj⟩
 have hn := hk j cs y hcs hy
 obtain ⟨a, b, z, m, p, j', d, s, t, u, v, x', y', rfl⟩ := hn.raw
 obtain ⟨bb, off, rfl, _, hbl, hc⟩ := hs.resolve_left (fun h => by rw [h] at hj; simp at hj)
 have hc := hc j _ hcs
 exact ⟨bb, off, rfl, hbl, a, b, z, m, p, j', d, s, t, u, v, x', y', hn, hc 0 _ rfl, hc 1 _ rfl, hc 2 _ rfl, hc 3 _ rfl, hc 4 _ rfl, hc 5 _ rfl, hc 6 _ rfl⟩
theorem neg_own (y : Ex) (H : KidC y) : OwnC 53 (.neg y) := by
 intro W0 w P b acc a tx z m o1 k1 c1 o2 k2 c2 o3 k3 c3 hn hp hf
 obtain ⟨-, ⟨-, -, e3⟩, -, -, css, hcl, hs3, hk3⟩ := hn.view
 simp only [zaO, List.length_cons, List.length_nil, Nat.zero_add] at e3
 subst e3
 obtain ⟨bb, off, rfl, hbl, a0, b0, z0, m0, p0, j0, d0, s0, t0, u0, v0, x0, y0, hy, g0, g1, g2, g3, g4, g5, g6⟩ := zgG hs3 hk3 (by rw [hcl]; rfl) 0 y rfl
 simp only [Nat.zero_mul, Nat.add_zero] at g0 g1 g2 g3 g4 g5 g6
 have hL : zbQ (.neg y) = 45 :: kidL y := by simp only [zbQ, kidL]
 rw [hL] at hf ⊢
 have HF0 := zh (show acc.length + 1 <= 100000000000000 by rw [List.length_cons] at hf; omega)
 have HF1 := zh (show (acc ++ [45]).length + (kidL y).length <= 100000000000000 by simp at hf ⊢; omega)
 have HE := zh (show acc ++ [45] ++ kidL y = acc ++ 45 :: kidL y by simp)
 have HC := zh (fun W (hp : Pen W0 b (acc ++ [45]) W) => H W0 W P b (acc ++ [45]) a0 b0 z0 m0 p0 j0 d0 s0 t0 u0 v0 x0 y0 hy hp HF1.out)
 have HP := zh (hp.alloc (Obj.cells #[.string a, .string tx, .int .i64 z, .int .i64 m, .slice o1 k1 c1, .slice o2 k2 c2, .slice (some ⟨bb, off, none⟩) 1 c3] 94))
 have HK := zh ((zcj b w).alloc (Obj.cells #[.string a, .string tx, .int .i64 z, .int .i64 m, .slice o1 k1 c1, .slice o2 k2 c2, .slice (some ⟨bb, off, none⟩) 1 c3] 94))
 have HBX := zh (show (w.alloc (Obj.cells #[.string a, .string tx, .int .i64 z, .int .i64 m, .slice o1 k1 c1, .slice o2 k2 c2, .slice (some ⟨bb, off, none⟩) 1 c3] 94)).heap[w.heap.size]? = some (.cells #[.string a, .string tx, .int .i64 z, .int .i64 m, .slice o1 k1 c1, .slice o2 k2 c2, .slice (some ⟨bb, off, none⟩) 1 c3] 94 (0, 0)) from Array.getElem?_push_size)
 have hne : w.heap.size ≠ b := Nat.ne_of_gt hp.lt
 have HG := zh (fun W (h : Below W0.heap.size W0 W) => (⟨(h.cell (p := ⟨bb, off, none⟩) hbl).trans g0, (h.cell (p := ⟨bb, off + 1, none⟩) hbl).trans g1, (h.cell (p := ⟨bb, off + 2, none⟩) hbl).trans g2, (h.cell (p := ⟨bb, off + 3, none⟩) hbl).trans g3, (h.cell (p := ⟨bb, off + 4, none⟩) hbl).trans g4, (h.cell (p := ⟨bb, off + 5, none⟩) hbl).trans g5, (h.cell (p := ⟨bb, off + 6, none⟩) hbl).trans g6⟩ : W.cell? ⟨bb, off, none⟩ = some (.string a0) /\ W.cell? ⟨bb, off + 1, none⟩ = some (.string b0) /\ W.cell? ⟨bb, off + 2, none⟩ = some (.int .i64 z0) /\ W.cell? ⟨bb, off + 3, none⟩ = some (.int .i64 m0) /\ W.cell? ⟨bb, off + 4, none⟩ = some (.slice p0 j0 d0) /\ W.cell? ⟨bb, off + 5, none⟩ = some (.slice s0 t0 u0) /\ W.cell? ⟨bb, off + 6, none⟩ = some (.slice v0 x0 y0)))
 generalize kidL y = L at HE HC hf ⊢
 clear hn hp hf H hL hs3 hk3 hcl hy g0 g1 g2 g3 g4 g5 g6 HF1
 go_enter Tryz.func53, Tryz.ntmps53
 go_wp2_with fail
 refine (zei 45 HP.out HF0.out).mono ?_
 rintro e w1 ⟨rfl, hp1, hk1⟩
 have HP1 := zh hp1
 have HK1 := zh (HK.out.trans hk1)
 obtain ⟨q0, q1, q2, q3, q4, q5, q6⟩ := zib (zfK hk1 HBX.out (by decide) hne)
 clear hp1 hk1
 go_wp2
 go_loopw [11] (fun v11 wr => ∃ k : Nat, v11 = .int .i64 k /\ k <= 1 /\ Hid (Pen W0 b (acc ++ if k = 0 then [45] else 45 :: L) wr) /\ Hid (Lib.OthersKept 5 (some b) w wr)) (fun v11 _ => 1 - (Go.RowKit.intOf v11).toNat)
 case atStart => exact ⟨0, rfl, by decide, HP1, HK1⟩
 case round =>
  obtain ⟨k, rfl, hk, HPk, HKk⟩ := hrel
  by_cases hlt : k = 0
  ·subst hlt
   have hpk : Pen W0 b (acc ++ [45]) wr := HPk.out
   obtain ⟨g0, g1, g2, g3, g4, g5, g6⟩ := HG.out wr hpk.bel
   have HC1 := zh (HC.out _ (hpk.alloc (Obj.cells #[.string a0, .string b0, .int .i64 z0, .int .i64 m0, .slice p0 j0 d0, .slice s0 t0 u0, .slice v0 x0 y0] 27)))
   clear hpk
   go_wp2_with fail
   refine HC1.out.mono ?_
   rintro e w2 ⟨rfl, hp2, hk2⟩
   have HP2 := zh (show Pen W0 b (acc ++ 45 :: L) w2 by rw [<- HE.out]; exact hp2)
   have HK2 := zh ((HKk.out.alloc (Obj.cells #[.string a0, .string b0, .int .i64 z0, .int .i64 m0, .slice p0 j0 d0, .slice s0 t0 u0, .slice v0 x0 y0] 27)).trans hk2)
   clear hp2 hk2
   go_wp2
   go_roundw
   case rel => exact ⟨1, by go_num, Nat.le_refl _, HP2, HK2⟩
   case measure => simp [Go.RowKit.intOf]
  ·have hk1 : k = 1 := by omega
   subst hk1
   have HP3 := zh (show Pen W0 b (acc ++ 45 :: L) wr from HPk.out)
   go_wp2
   first | go_end0 | ((try simp only [Exit.inBlock, Exit.then]); refine bodyPost_ret (results_none rfl _ _ _) rfl ?_)
   exact ⟨rfl, HP3.out, HKk.out⟩
end Go.Proofs.YtbcemjhaecelnaaGreatDoor.Par
end
section
namespace Go.Proofs.YtbcemjhaecelnaaGreatDoor.Par
open Go.RowKit Go.Lib
open Go.Proofs.YtbcemjhaecelnaaGreatDoor.Sto
theorem modeWord_zero (s t : ByteArray) (w : World) : Calls Tryz.prog 77 #[.int .i64 0, .string s, .string t] w fun e w' => e = .returned (.string ⟨#[]⟩) /\ w = w' := by
 go_enter Tryz.func77, Tryz.ntmps77
 go_wp2
 go_ret
 exact ⟨rfl, rfl⟩
theorem size_app (a b : ByteArray) : (a ++ b).size = a.size + b.size := by simp
theorem bin_own (op : ByteArray) (l r : Ex) (H1 : KidC l) (H2 : KidC r) : OwnC 54 (.bin op 0 [] l r) := by
 intro W0 w P b acc a tx z m o1 k1 c1 o2 k2 c2 o3 k3 c3 hn hp hf
 obtain ⟨⟨-, etx, -, em⟩, ⟨-, -, e3⟩, -, -, css, hcl, hs3, hk3⟩ := hn.view
 simp only [zfC] at etx
 simp only [zfD] at em
 have etx := etx.symm
 subst etx
 have em0 : m = 0 := em
 subst em0
 simp only [zaO, List.length_cons, List.length_nil, Nat.zero_add] at e3
 have e4 : 2 = k3 := e3
 clear e3 em
 subst e4
 obtain ⟨bb, off, rfl, hbl, a0, b0, z0, m0, p0, j0, d0, s0, t0, u0, v0, x0, y0, hy0, g0, g1, g2, g3, g4, g5, g6⟩ := zgG hs3 hk3 (by rw [hcl]; rfl) 0 l rfl
 obtain ⟨bb', off', eo, -, a1, b1, z1, m1, p1, j1, d1, s1, t1, u1, v1, x1, y1, hy1, f0, f1, f2, f3, f4, f5, f6⟩ := zgG hs3 hk3 (by rw [hcl]; rfl) 1 r rfl
 injection eo with eo; injection eo with eb eof
 subst eb; subst eof
 simp only [Nat.zero_mul, Nat.add_zero] at g0 g1 g2 g3 g4 g5 g6
 simp only [Nat.one_mul] at f0 f1 f2 f3 f4 f5 f6
 have hLx : zbQ (.bin op 0 [] l r) = kidL l ++ (32 :: (op.data.toList ++ (32 :: kidL r))) := by simp [zbQ, kidL]
 rw [hLx] at hf ⊢
 have hoz : op.size = op.data.toList.length := by rw [Array.length_toList]; rfl
 have hoz2 := hoz
 simp only [List.length_append, List.length_cons] at hf
 obtain ⟨nz, hnz⟩ : ∃ n, op.size = n := ⟨_, rfl⟩
 have hnb : nz <= 100000000000000 := by omega
 have HF0 := zh (show acc.length + (kidL l).length <= 100000000000000 by omega)
 have hsp : ((⟨#[32]⟩ : ByteArray) ++ op).data.toList = 32 :: op.data.toList := by rw [ByteArray.data_append, Array.toList_append]; rfl
 have hs1 : (⟨#[32]⟩ : ByteArray).size = 1 := rfl
 have HF1 := zh (show (acc ++ kidL l).length + ((⟨#[32]⟩ : ByteArray) ++ op).size <= 100000000000000 by rw [size_app, hoz, List.length_append, hs1]; omega)
 have HF2 := zh (show (acc ++ kidL l ++ ((⟨#[32]⟩ : ByteArray) ++ op).data.toList).length + 1 <= 100000000000000 by rw [hsp]; simp only [List.length_append, List.length_cons]; omega)
 have HF3 := zh (show (acc ++ kidL l ++ ((⟨#[32]⟩ : ByteArray) ++ op).data.toList ++ [32]).length + (kidL r).length <= 100000000000000 by rw [hsp]; simp only [List.length_append, List.length_cons, List.length_nil]; omega)
 have HE := zh (show acc ++ kidL l ++ ((⟨#[32]⟩ : ByteArray) ++ op).data.toList ++ [32] ++ kidL r = acc ++ (kidL l ++ (32 :: (op.data.toList ++ (32 :: kidL r)))) by rw [hsp]; simp only [List.append_assoc, List.cons_append, List.nil_append])
 have HC := zh (fun W (hp : Pen W0 b acc W) => H1 W0 W P b acc a0 b0 z0 m0 p0 j0 d0 s0 t0 u0 v0 x0 y0 hy0 hp HF0.out)
 have HD := zh (fun W (hp : Pen W0 b _ W) => H2 W0 W P b _ a1 b1 z1 m1 p1 j1 d1 s1 t1 u1 v1 x1 y1 hy1 hp HF3.out)
 have HP := zh (hp.alloc (Obj.cells #[.string a, .string op, .int .i64 z, .int .i64 0, .slice o1 k1 c1, .slice o2 k2 c2, .slice (some ⟨bb, off, none⟩) 2 c3] 97))
 have HK := zh ((zcj b w).alloc (Obj.cells #[.string a, .string op, .int .i64 z, .int .i64 0, .slice o1 k1 c1, .slice o2 k2 c2, .slice (some ⟨bb, off, none⟩) 2 c3] 97))
 have hbx := (show (w.alloc (Obj.cells #[.string a, .string op, .int .i64 z, .int .i64 0, .slice o1 k1 c1, .slice o2 k2 c2, .slice (some ⟨bb, off, none⟩) 2 c3] 97)).heap[w.heap.size]? = some (.cells #[.string a, .string op, .int .i64 z, .int .i64 0, .slice o1 k1 c1, .slice o2 k2 c2, .slice (some ⟨bb, off, none⟩) 2 c3] 97 (0, 0)) from Array.getElem?_push_size)
 have HBX := zh (fun W (h : Lib.OthersKept 5 (some b) (w.alloc (Obj.cells #[.string a, .string op, .int .i64 z, .int .i64 0, .slice o1 k1 c1, .slice o2 k2 c2, .slice (some ⟨bb, off, none⟩) 2 c3] 97)) W) => zib (zfK h hbx (by decide) (Nat.ne_of_gt hp.lt)))
 have HG0 := zh (fun W (h : Below W0.heap.size W0 W) => (⟨(h.cell (p := ⟨bb, off, none⟩) hbl).trans g0, (h.cell (p := ⟨bb, off + 1, none⟩) hbl).trans g1, (h.cell (p := ⟨bb, off + 2, none⟩) hbl).trans g2, (h.cell (p := ⟨bb, off + 3, none⟩) hbl).trans g3, (h.cell (p := ⟨bb, off + 4, none⟩) hbl).trans g4, (h.cell (p := ⟨bb, off + 5, none⟩) hbl).trans g5, (h.cell (p := ⟨bb, off + 6, none⟩) hbl).trans g6⟩ : W.cell? ⟨bb, off, none⟩ = some (.string a0) /\ W.cell? ⟨bb, off + 1, none⟩ = some (.string b0) /\ W.cell? ⟨bb, off + 2, none⟩ = some (.int .i64 z0) /\ W.cell? ⟨bb, off + 3, none⟩ = some (.int .i64 m0) /\ W.cell? ⟨bb, off + 4, none⟩ = some (.slice p0 j0 d0) /\ W.cell? ⟨bb, off + 5, none⟩ = some (.slice s0 t0 u0) /\ W.cell? ⟨bb, off + 6, none⟩ = some (.slice v0 x0 y0)))
 have HG1 := zh (fun W (h : Below W0.heap.size W0 W) => (⟨(h.cell (p := ⟨bb, off + 7, none⟩) hbl).trans f0, (h.cell (p := ⟨bb, off + 7 + 1, none⟩) hbl).trans f1, (h.cell (p := ⟨bb, off + 7 + 2, none⟩) hbl).trans f2, (h.cell (p := ⟨bb, off + 7 + 3, none⟩) hbl).trans f3, (h.cell (p := ⟨bb, off + 7 + 4, none⟩) hbl).trans f4, (h.cell (p := ⟨bb, off + 7 + 5, none⟩) hbl).trans f5, (h.cell (p := ⟨bb, off + 7 + 6, none⟩) hbl).trans f6⟩ : W.cell? ⟨bb, off + 7, none⟩ = some (.string a1) /\ W.cell? ⟨bb, off + 7 + 1, none⟩ = some (.string b1) /\ W.cell? ⟨bb, off + 7 + 2, none⟩ = some (.int .i64 z1) /\ W.cell? ⟨bb, off + 7 + 3, none⟩ = some (.int .i64 m1) /\ W.cell? ⟨bb, off + 7 + 4, none⟩ = some (.slice p1 j1 d1) /\ W.cell? ⟨bb, off + 7 + 5, none⟩ = some (.slice s1 t1 u1) /\ W.cell? ⟨bb, off + 7 + 6, none⟩ = some (.slice v1 x1 y1)))
 generalize kidL l = L1 at HE HC HD HF1 HF2 ⊢
 generalize kidL r = L2 at HE HC HD ⊢
 clear hn hp H1 H2 hLx hs3 hk3 hcl hy0 hy1 g0 g1 g2 g3 g4 g5 g6 f0 f1 f2 f3 f4 f5 f6 hoz hf hoz2 hsp hs1 hbx HF0 HF3
 go_enter Tryz.func54, Tryz.ntmps54
 go_wp2
 go_loopw [10] (fun v10 wr => ∃ k : Nat, v10 = .int .i64 k /\ k <= 2 /\ Hid (Pen W0 b (if k = 0 then acc else if k = 1 then acc ++ L1 else acc ++ (L1 ++ (32 :: (op.data.toList ++ (32 :: L2))))) wr) /\ Hid (Lib.OthersKept 5 (some b) (w.alloc (Obj.cells #[.string a, .string op, .int .i64 z, .int .i64 0, .slice o1 k1 c1, .slice o2 k2 c2, .slice (some ⟨bb, off, none⟩) 2 c3] 97)) wr)) (fun v10 _ => 2 - (Go.RowKit.intOf v10).toNat)
 case atStart => exact ⟨0, rfl, by decide, HP, Lib.OthersKept.refl _ _ _⟩
 case round =>
  obtain ⟨k, rfl, hk, HPk, HKk⟩ := hrel
  by_cases hlt : k = 0
  ·subst hlt
   have hpk : Pen W0 b acc wr := HPk.out
   obtain ⟨g0, g1, g2, g3, g4, g5, g6⟩ := HG0.out wr hpk.bel
   have HC1 := zh (HC.out _ (hpk.alloc (Obj.cells #[.string a0, .string b0, .int .i64 z0, .int .i64 m0, .slice p0 j0 d0, .slice s0 t0 u0, .slice v0 x0 y0] 27)))
   clear hpk
   go_wp2_with fail
   refine HC1.out.mono ?_
   rintro e w2 ⟨rfl, hp2, hk2⟩
   have HP2 := zh hp2
   have HK2 := zh ((HKk.out.alloc (Obj.cells #[.string a0, .string b0, .int .i64 z0, .int .i64 m0, .slice p0 j0 d0, .slice s0 t0 u0, .slice v0 x0 y0] 27)).trans hk2)
   clear hp2 hk2
   go_wp2
   go_roundw
   case rel => exact ⟨1, by go_num, by decide, HP2, HK2⟩
   case measure => simp [Go.RowKit.intOf]
  ·by_cases hlt1 : k = 1
   ·subst hlt1
    have hpk : Pen W0 b (acc ++ L1) wr := HPk.out
    obtain ⟨g0, g1, g2, g3, g4, g5, g6⟩ := HG1.out wr hpk.bel
    have HKa := zh (HKk.out.alloc (Obj.cells #[.string a1, .string b1, .int .i64 z1, .int .i64 m1, .slice p1 j1 d1, .slice s1 t1 u1, .slice v1 x1 y1] 27))
    obtain ⟨q0, q1, q2, q3, q4, q5, q6⟩ := HBX.out _ HKa.out
    have hwb : wr.heap.size ≠ b := Nat.ne_of_gt hpk.lt
    have hb2 := (show (wr.alloc (Obj.cells #[.string a1, .string b1, .int .i64 z1, .int .i64 m1, .slice p1 j1 d1, .slice s1 t1 u1, .slice v1 x1 y1] 27)).heap[wr.heap.size]? = some (.cells #[.string a1, .string b1, .int .i64 z1, .int .i64 m1, .slice p1 j1 d1, .slice s1 t1 u1, .slice v1 x1 y1] 27 (0, 0)) from Array.getElem?_push_size)
    have HKB := zh (fun W (h : Lib.OthersKept 5 (some b) (wr.alloc (Obj.cells #[.string a1, .string b1, .int .i64 z1, .int .i64 m1, .slice p1 j1 d1, .slice s1 t1 u1, .slice v1 x1 y1] 27)) W) => zib (zfK h hb2 (by decide) hwb))
    have HS1 := zh (zia ((⟨#[32]⟩ : ByteArray) ++ op) (hpk.alloc (Obj.cells #[.string a1, .string b1, .int .i64 z1, .int .i64 m1, .slice p1 j1 d1, .slice s1 t1 u1, .slice v1 x1 y1] 27)) HF1.out)
    clear hpk hwb hb2
    go_wp2_with fail
    refine HS1.out.mono ?_
    rintro e w2 ⟨rfl, hp2, hk2⟩
    have HP2 := zh hp2
    have HK2 := zh (HKa.out.trans hk2)
    have HKC := zh hk2
    clear q0 q1 q2 q3 q4 q5 q6 g0 g1 g2 g3 g4 g5 g6 hp2 hk2
    obtain ⟨q0, q1, q2, q3, q4, q5, q6⟩ := HBX.out _ HK2.out
    have HM := zh (fun s t => modeWord_zero s t w2)
    go_wp2_with fail
    refine (HM.out _ _).mono ?_
    rintro e w3 ⟨rfl, rfl⟩
    have HS2 := zh (zei 32 HP2.out HF2.out)
    go_wp2_with fail
    refine HS2.out.mono ?_
    rintro e w3 ⟨rfl, hp3, hk3⟩
    have HP3 := zh hp3
    have HK3 := zh (HK2.out.trans hk3)
    obtain ⟨r0, r1, r2, r3, r4, r5, r6⟩ := HKB.out _ (HKC.out.trans hk3)
    clear q0 q1 q2 q3 q4 q5 q6 hp3 hk3
    have HD1 := zh (HD.out w3 HP3.out)
    go_wp2_with fail
    refine HD1.out.mono ?_
    rintro e w4 ⟨rfl, hp4, hk4⟩
    have HP4 := zh (show Pen W0 b (acc ++ (L1 ++ (32 :: (op.data.toList ++ (32 :: L2))))) w4 by rw [<- HE.out]; exact hp4)
    have HK4 := zh (HK3.out.trans hk4)
    clear r0 r1 r2 r3 r4 r5 r6 hp4 hk4
    go_wp2
    go_roundw
    case rel => exact ⟨2, by go_num, Nat.le_refl _, HP4, HK4⟩
    case measure => simp [Go.RowKit.intOf]
   ·have hk1 : k = 2 := by omega
    subst hk1
    have HP3 := zh (show Pen W0 b (acc ++ (L1 ++ (32 :: (op.data.toList ++ (32 :: L2))))) wr from HPk.out)
    go_wp2
    first | go_end0 | ((try simp only [Exit.inBlock, Exit.then]); refine bodyPost_ret (results_none rfl _ _ _) rfl ?_)
    exact ⟨rfl, HP3.out, HK.out.trans HKk.out⟩
end Go.Proofs.YtbcemjhaecelnaaGreatDoor.Par
end
section
namespace Go.Proofs.YtbcemjhaecelnaaGreatDoor.Par
open Go.RowKit Go.Lib
open Go.Proofs.YtbcemjhaecelnaaGreatDoor.Sto
def zhy : Ex -> Prop
 | .num n => n <= 1000000000000
 | .neg y => zhy y
 | .bin _ mode names l r => mode = 0 /\ names = [] /\ zhy l /\ zhy r
 | _ => False
theorem zct : ∀ x : Ex, zhy x -> zfp x
 | .num n, h => write_num n h
 | .neg y, h => write_neg y (neg_own y (zic y (zct y h)))
 | .bin op mode names l r, h => by
   obtain ⟨rfl, rfl, h1, h2⟩ := h
   exact write_bin op 0 [] l r (bin_own op l r (zic l (zct l h1)) (zic r (zct r h2)))
 | .agg .., h => h.elim
 | .fn .., h => h.elim
 | .sel .., h => h.elim
theorem pen_str {W0 w : World} {b : Nat} {acc : List UInt8} (h : Pen W0 b acc w) : Calls Tryz.prog 34 #[.pointer (some ⟨b, 0, none⟩)] w fun e w' => e = .returned (.string ⟨acc.toArray⟩) /\ Below W0.heap.size W0 w' :=
 (Tryz.Builder_String_any_k W0.heap.size b acc w h.bld h.bel.size).mono fun _e _w' ⟨he, _, hb, _⟩ => ⟨he, h.bel.trans hb⟩
theorem pen_new {W0 : World} (h : Env W0) : Pen W0 W0.heap.size [] (W0.alloc (.cells #[.pointer none, .slice none 0 0] 63)) :=
 ⟨h, (Below.refl _ _).alloc (Nat.le_refl _) _, Lib.IsBuilderF.of (Lib.fresh_isBuilder 63 5 W0)⟩
theorem print_bare (x : Ex) (H : zfp x) (hl : (zbQ x).length <= 1000000) (w : World) (P : Nat -> Prop) (a tx : ByteArray) (z m : Int) (o1 : Option Addr) (k1 c1 : Nat) (o2 : Option Addr) (k2 c2 : Nat) (o3 : Option Addr) (k3 c3 : Nat) (hE : Env w) (hn : Nod w P [.string a, .string tx, .int .i64 z, .int .i64 m, .slice o1 k1 c1, .slice o2 k2 c2, .slice o3 k3 c3] x) :
 Calls Tryz.prog 12 #[.agg #[.string a, .string tx, .int .i64 z, .int .i64 m, .slice o1 k1 c1, .slice o2 k2 c2, .slice o3 k3 c3, .int .i64 0, .int .i64 (-1), .int .i64 (-1)]] w fun e w' => e = .returned (.string ⟨(zbQ x).toArray⟩) /\ Below w.heap.size w w' := by
 have ha := hn.view.1.1
 subst ha
 obtain ⟨W0, hW0⟩ : ∃ W0, w.alloc (Obj.cells #[.string (opE x), .string tx, .int .i64 z, .int .i64 m, .slice o1 k1 c1, .slice o2 k2 c2, .slice o3 k3 c3, .int .i64 0, .int .i64 (-1), .int .i64 (-1)] 29) = W0 := ⟨_, rfl⟩
 have hb0 : Below w.heap.size w W0 := by rw [<- hW0]; exact (Below.refl _ _).alloc (Nat.le_refl _) _
 have hbx : zbb W0 w.heap.size (.string (opE x)) (.string tx) (.int .i64 z) (.int .i64 m) (.slice o1 k1 c1) (.slice o2 k2 c2) (.slice o3 k3 c3) (.int .i64 0) (.int .i64 (-1)) (.int .i64 (-1)) := by rw [<- hW0]; exact zaS _ _ _ _ _ _ _ _ _ _ _
 have hz0 : w.heap.size < W0.heap.size := by rw [<- hW0]; simp
 have hE0 := hE.below hb0
 have hn0 := hn.under hb0
 have HB := zh (fun W (h : Below W0.heap.size W0 W) => (show zbb W w.heap.size (.string (opE x)) (.string tx) (.int .i64 z) (.int .i64 m) (.slice o1 k1 c1) (.slice o2 k2 c2) (.slice o3 k3 c3) (.int .i64 0) (.int .i64 (-1)) (.int .i64 (-1)) from (h.block _ hz0).trans hbx).reads)
 have HP := zh (pen_new hE0)
 have HW := zh hW0
 have H1 := zh (fun W => zfo x tx z m o1 k1 c1 o2 k2 c2 o3 k3 c3 W)
 have H2 := zh (fun W (hp : Pen W0 W0.heap.size [] W) => H W0 W P W0.heap.size [] (opE x) tx z m o1 k1 c1 o2 k2 c2 o3 k3 c3 hn0 hp (by simp only [List.length_nil, Nat.zero_add]; omega))
 have HB0 := zh hb0
 have HZ := zh hz0
 generalize opE x = a at HB H1 H2 hW0 HW ⊢
 generalize tagE x = T at H1 H2
 generalize zbQ x = L at H2 ⊢
 clear hb0 hbx hz0 hE0 hn0 hn hE hl H HW
 go_enter Tryz.func12, Tryz.ntmps12
 obtain ⟨⟨q0, q1, q2, q3, q4, q5, q6, q7, q8, q9⟩, -⟩ := HB.out _ HP.out.bel
 go_wp2_with fail
 refine (H1.out _).mono ?_
 rintro e w1 ⟨rfl, b1⟩
 have HP1 := zh (HP.out.below b1)
 have HH2 := zh (H2.out w1 HP1.out)
 clear b1 q0 q1 q2 q3 q4 q5 q6 q7 q8 q9
 go_wp2_with fail
 refine HH2.out.mono ?_
 rintro e w2 ⟨rfl, hp2, hk2⟩
 have HP2 := zh (show Pen W0 W0.heap.size L w2 from hp2)
 obtain ⟨⟨q0, q1, q2, q3, q4, q5, q6, q7, q8, q9⟩, -⟩ := HB.out _ hp2.bel
 clear hp2 hk2
 have HS := zh (pen_str HP2.out)
 go_wp2_with fail
 refine HS.out.mono ?_
 rintro e w3 ⟨rfl, b3⟩
 go_wp2
 go_ret
 exact ⟨rfl, HB0.out.trans (b3.mono (Nat.le_of_lt HZ.out))⟩
end Go.Proofs.YtbcemjhaecelnaaGreatDoor.Par
end
section
namespace Go.Proofs.YtbcemjhaecelnaaGreatDoor.Par
open Go.RowKit Go.Lib
open Go.Proofs.YtbcemjhaecelnaaGreatDoor.Sto
theorem alive_two : zbk [115, 117, 109, 32, 98, 121, 32, 40, 104, 111, 115, 116, 41, 32, 40, 99, 112, 117, 123, 97, 61, 34, 98, 34, 125, 41, 32, 111, 114, 100, 101, 114, 32, 100, 101, 115, 99, 32, 108, 105, 109, 105, 116, 32, 51] = some ⟨.agg (bz [115, 117, 109]) 0 1 [bz [104, 111, 115, 116]] (.sel (bz [99, 112, 117]) 0 [(bz [97], 1, bz [98])]), 2, 3, -1⟩ := by decide +kernel
theorem alive_agg : aggB [116, 111, 112, 107] = true := by decide +kernel
theorem zid (s : ByteArray) (hs : s.size <= 600) (q : Qr) (hq : zbk s.data.toList = some q) (od : Int) (ho : (q.order : Nat) = od) (w : World) (h : Env w) :
 Calls Tryz.prog 7 #[.string s] w fun e w' => (∃ (a tx : ByteArray) (z m : Int) (o1 : Option Addr) (k1 c1 : Nat) (o2 : Option Addr) (k2 c2 : Nat) (o3 : Option Addr) (k3 c3 : Nat),
  e = .returned (.tuple #[.agg #[.string a, .string tx, .int .i64 z, .int .i64 m, .slice o1 k1 c1, .slice o2 k2 c2, .slice o3 k3 c3, .int .i64 od, .int .i64 q.limit, .int .i64 q.offset], .int .i64 0]) /\
  Nod w' (fun b => w.heap.size <= b) [.string a, .string tx, .int .i64 z, .int .i64 m, .slice o1 k1 c1, .slice o2 k2 c2, .slice o3 k3 c3] q.root) /\ Below w.heap.size w w' := by
 subst ho
 refine (zgr s (by unfold maxLen; omega) w h).mono fun e w' ⟨he, hb⟩ => ⟨?_, hb⟩
 unfold ReadEnd at he
 rw [if_neg (by omega), hq] at he
 obtain ⟨cs, rfl, hn⟩ := he
 obtain ⟨a, tx, z, m, o1, k1, c1, o2, k2, c2, o3, k3, c3, rfl⟩ := hn.raw
 exact ⟨a, tx, z, m, o1, k1, c1, o2, k2, c2, o3, k3, c3, rfl, hn⟩
def x1 : Ex := .bin (bz [43]) 0 [] (.num 1) (.bin (bz [42]) 0 [] (.num 2) (.neg (.num 3)))
def x2 : Ex := .agg (bz [115, 117, 109]) 0 1 [bz [104, 111, 115, 116]] (.sel (bz [99, 112, 117]) 0 [(bz [97], 1, bz [98])])
theorem x1_plain : zhy x1 := by simp [x1, zhy]
theorem zie : zbQ x1 = [49, 32, 43, 32, 40, 50, 32, 42, 32, 40, 45, 51, 41, 41] := by decide +kernel
theorem alive_any (w : World) (h : Env w) : Calls Tryz.prog 6 #[] w fun e w' => e = .returned (.bool true) /\ Below w.heap.size w w' := by
 have R1 := zh (zid ⟨#[49, 43, 50, 42, 45, 51]⟩ (by decide) ⟨x1, 0, -1, -1⟩ alive_one 0 rfl w h)
 have R2 := zh (fun W h => zid ⟨#[115, 117, 109, 32, 98, 121, 32, 40, 104, 111, 115, 116, 41, 32, 40, 99, 112, 117, 123, 97, 61, 34, 98, 34, 125, 41, 32, 111, 114, 100, 101, 114, 32, 100, 101, 115, 99, 32, 108, 105, 109, 105, 116, 32, 51]⟩ (by decide) ⟨x2, 2, 3, -1⟩ alive_two 2 rfl W h)
 have HPR := zh (print_bare x1 (zct x1 x1_plain) (by rw [zie]; decide))
 rw [zie] at HPR
 have HA := zh (fun W => (zgF ⟨#[116, 111, 112, 107]⟩ W).mono (R' := fun e w' => e = .returned (.bool true) /\ W = w') (fun e w' ⟨h1, h2⟩ => ⟨by rw [h1]; rw [show (⟨#[116, 111, 112, 107]⟩ : ByteArray).data.toList = [116, 111, 112, 107] from rfl, alive_agg], h2⟩))
 have HE := zh h
 clear h
 go_enter Tryz.func6, Tryz.ntmps6
 go_wp2_with fail
 refine R1.out.mono ?_
 rintro e w1 ⟨⟨a, tx, z, m, o1, k1, c1, o2, k2, c2, o3, k3, c3, rfl, hn⟩, b1⟩
 have HN := zh hn
 have HB1 := zh b1
 obtain ⟨wa, hwa⟩ : ∃ wa, w1.alloc (Obj.cells #[.string a, .string tx, .int .i64 z, .int .i64 m, .slice o1 k1 c1, .slice o2 k2 c2, .slice o3 k3 c3, .int .i64 0, .int .i64 (-1), .int .i64 (-1)] 29) = wa := ⟨_, rfl⟩
 have HWA := zh hwa
 have hba : Below w1.heap.size w1 wa := by rw [<- hwa]; exact (Below.refl _ _).alloc (Nat.le_refl _) _
 have hbx : zbb wa w1.heap.size (.string a) (.string tx) (.int .i64 z) (.int .i64 m) (.slice o1 k1 c1) (.slice o2 k2 c2) (.slice o3 k3 c3) (.int .i64 0) (.int .i64 (-1)) (.int .i64 (-1)) := by rw [<- hwa]; exact zaS _ _ _ _ _ _ _ _ _ _ _
 have hza : w1.heap.size < wa.heap.size := by rw [<- hwa]; simp
 have HBA := zh (b1.trans (hba.mono b1.size))
 have HNA := zh (hn.under hba)
 have HBX := zh (fun W (h : Below wa.heap.size wa W) => (show zbb W w1.heap.size (.string a) (.string tx) (.int .i64 z) (.int .i64 m) (.slice o1 k1 c1) (.slice o2 k2 c2) (.slice o3 k3 c3) (.int .i64 0) (.int .i64 (-1)) (.int .i64 (-1)) from (h.block _ hza).trans hbx).reads)
 have HR2 := zh (R2.out wa (HE.out.below HBA.out))
 clear hn b1 hwa hba hbx hza R1 R2
 go_wp2_with fail
 rw [show w1.alloc (Obj.cells #[.string a, .string tx, .int .i64 z, .int .i64 m, .slice o1 k1 c1, .slice o2 k2 c2, .slice o3 k3 c3, .int .i64 0, .int .i64 (-1), .int .i64 (-1)] 29) = wa from HWA.out]
 refine HR2.out.mono ?_
 rintro e w2 ⟨⟨a', tx', z', m', o1', k1', c1', o2', k2', c2', o3', k3', c3', rfl, hn2⟩, b2⟩
 have htx : tx' = ⟨#[115, 117, 109]⟩ := hn2.view.1.2.1
 subst htx
 obtain ⟨⟨q0, q1, q2, q3, q4, q5, q6, q7, q8, q9⟩, -⟩ := HBX.out _ (b2.alloc b2.size (Obj.cells #[.string a', .string ⟨#[115, 117, 109]⟩, .int .i64 z', .int .i64 m', .slice o1' k1' c1', .slice o2' k2' c2', .slice o3' k3' c3', .int .i64 2, .int .i64 3, .int .i64 (-1)] 29))
 have HB2 := zh (HBA.out.trans (b2.mono HBA.out.size))
 have HB3 := zh ((Below.refl w2.heap.size w2).alloc (Nat.le_refl _) (Obj.cells #[.string a', .string ⟨#[115, 117, 109]⟩, .int .i64 z', .int .i64 m', .slice o1' k1' c1', .slice o2' k2' c2', .slice o3' k3' c3', .int .i64 2, .int .i64 3, .int .i64 (-1)] 29))
 have HPP := zh (HPR.out _ _ a tx z m o1 k1 c1 o2 k2 c2 o3 k3 c3 ((HE.out.below HB2.out).below HB3.out) ((HNA.out.under b2).under HB3.out))
 have hbx2 := zaS w2 (.string a') (.string ⟨#[115, 117, 109]⟩) (.int .i64 z') (.int .i64 m') (.slice o1' k1' c1') (.slice o2' k2' c2') (.slice o3' k3' c3') (.int .i64 2) (.int .i64 3) (.int .i64 (-1))
 have HBY := zh (fun W (h : Below (w2.alloc (Obj.cells #[.string a', .string ⟨#[115, 117, 109]⟩, .int .i64 z', .int .i64 m', .slice o1' k1' c1', .slice o2' k2' c2', .slice o3' k3' c3', .int .i64 2, .int .i64 3, .int .i64 (-1)] 29)).heap.size (w2.alloc (Obj.cells #[.string a', .string ⟨#[115, 117, 109]⟩, .int .i64 z', .int .i64 m', .slice o1' k1' c1', .slice o2' k2' c2', .slice o3' k3' c3', .int .i64 2, .int .i64 3, .int .i64 (-1)] 29)) W) => (show zbb W w2.heap.size (.string a') (.string ⟨#[115, 117, 109]⟩) (.int .i64 z') (.int .i64 m') (.slice o1' k1' c1') (.slice o2' k2' c2') (.slice o3' k3' c3') (.int .i64 2) (.int .i64 3) (.int .i64 (-1)) from (h.block _ (by simp)).trans hbx2).reads)
 clear b2 hn2 hbx2
 go_wp2_with fail
 refine HPP.out.mono ?_
 rintro e w3 ⟨rfl, b3⟩
 clear q0 q1 q2 q3 q4 q5 q6 q7 q8 q9
 obtain ⟨⟨q0, q1, q2, q3, q4, q5, q6, q7, q8, q9⟩, -⟩ := HBY.out _ b3
 have HB4 := zh ((HB2.out.trans (HB3.out.mono HB2.out.size)).trans (b3.mono (HB2.out.trans (HB3.out.mono HB2.out.size)).size))
 clear b3
 go_wp2_with fail
 refine (HA.out _).mono ?_
 rintro e w4 ⟨rfl, rfl⟩
 go_wp2
 go_ret
 exact ⟨rfl, HB4.out⟩
end Go.Proofs.YtbcemjhaecelnaaGreatDoor.Par
end
end
