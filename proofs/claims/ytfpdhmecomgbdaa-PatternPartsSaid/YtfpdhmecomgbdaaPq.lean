/- Patterns: whether a rune fits; which atoms it fits; which ones may come then. -/
import Derived.Test.YtfpdhmecomgbdaaPp
namespace Go.Proofs.Ytfpdhmecomgbdaa
open Go.RowKit

def z84 : Value := .agg #[.bool false, .slice none 0 0]
/-- What the three questions of 'fits' answer at a kind. -/
structure AsksV (ty : TypeId) : Prop where
  a80 : ∀ (v : Value) (W : World), (Instr.typeAssert (.iface ty v) 38 80 true).run Try.prog W = .ok (.tuple #[.int .i32 0, .bool false]) W
  a84 : ∀ (v : Value) (W : World), (Instr.typeAssert (.iface ty v) 38 84 true).run Try.prog W = .ok (.tuple #[.agg #[.bool false, .slice none 0 0], .bool false]) W
theorem asks62 : AsksV 62 := ⟨fun _ _ => by kernel_rfl, fun _ _ => by kernel_rfl⟩
theorem asks65 : AsksV 65 := ⟨fun _ _ => by kernel_rfl, fun _ _ => by kernel_rfl⟩
theorem asks69 : AsksV 69 := ⟨fun _ _ => by kernel_rfl, fun _ _ => by kernel_rfl⟩
theorem asks87 : AsksV 87 := ⟨fun _ _ => by kernel_rfl, fun _ _ => by kernel_rfl⟩
theorem is80 (v : Value) (W : World) : (Instr.typeAssert (.iface 80 v) 38 80 true).run Try.prog W = .ok (.tuple #[v, .bool true]) W := by kernel_rfl
theorem no80_84 (v : Value) (W : World) : (Instr.typeAssert (.iface 84 v) 38 80 true).run Try.prog W = .ok (.tuple #[.int .i32 0, .bool false]) W := by kernel_rfl
theorem is84 (v : Value) (W : World) : (Instr.typeAssert (.iface 84 v) 38 84 true).run Try.prog W = .ok (.tuple #[v, .bool true]) W := by kernel_rfl
theorem is87 (v : Value) (W : World) : (Instr.typeAssert (.iface 87 v) 38 87 true).run Try.prog W = .ok (.tuple #[v, .bool true]) W := by kernel_rfl
theorem no87_62 (v : Value) (W : World) : (Instr.typeAssert (.iface 62 v) 38 87 true).run Try.prog W = .ok (.tuple #[.agg #[], .bool false]) W := by kernel_rfl
theorem no87_65 (v : Value) (W : World) : (Instr.typeAssert (.iface 65 v) 38 87 true).run Try.prog W = .ok (.tuple #[.agg #[], .bool false]) W := by kernel_rfl
theorem no87_69 (v : Value) (W : World) : (Instr.typeAssert (.iface 69 v) 38 87 true).run Try.prog W = .ok (.tuple #[.agg #[], .bool false]) W := by kernel_rfl

set_option maxHeartbeats 4000000 in
set_option maxRecDepth 100000 in
theorem fits_far (ty : TypeId) (u : Value) (ok : Bool) (r : Int) (w : World) (ha : AsksV ty) (h87 : ∀ (W : World), ∃ z, (Instr.typeAssert (.iface ty u) 38 87 true).run Try.prog W = .ok (.tuple #[.agg #[], .bool ok]) W ∧ z = u) :
    Calls Try.prog 29 #[.iface ty u, .int .i32 r] w fun e w' => e = .returned (.bool ok) ∧ Below w.heap.size w w' := by
  have i1 := ha.a80
  have i2 := ha.a84
  have i3 : ∀ (W : World), (Instr.typeAssert (.iface ty u) 38 87 true).run Try.prog W = .ok (.tuple #[.agg #[], .bool ok]) W := fun W => (h87 W).choose_spec.1
  clear ha h87
  go_enter Try.func29, Try.ntmps29
  go_wp2_with fail
  go_ret
  exact ⟨rfl, ((Below.refl _ _).alloc (Nat.le_refl _) _).alloc (by simp) _⟩
set_option maxHeartbeats 4000000 in
set_option maxRecDepth 100000 in
theorem fits_only (o r : Int) (w : World) :
    Calls Try.prog 29 #[.iface 80 (.int .i32 o), .int .i32 r] w fun e w' => e = .returned (.bool (o == r)) ∧ Below w.heap.size w w' := by
  have i1 := is80
  go_enter Try.func29, Try.ntmps29
  go_wp2_with fail
  go_ret
  exact ⟨rfl, Below.refl _ _⟩
set_option maxHeartbeats 4000000 in
set_option maxRecDepth 100000 in
theorem fits_cls (neg : Bool) (o : Option Addr) (n cap : Nat) (xs : List (Int × Int)) (r : Int) (P : Nat → Prop) (w : World) (hn : xs.length = n) (hm : n ≤ 2000000) (hS : SeesI w P o xs) :
    Calls Try.prog 29 #[.iface 84 (.agg #[.bool neg, .slice o n cap]), .int .i32 r] w fun e w' => e = .returned (.bool (hasF xs r != neg)) ∧ Below w.heap.size w w' := by
  obtain ⟨W, hW⟩ : ∃ W, w.alloc (Obj.cells #[.bool neg, .slice o n cap] 84) = W := ⟨_, rfl⟩
  have hb : Below w.heap.size w W := by rw [← hW]; exact (Below.refl _ _).alloc (Nat.le_refl _) _
  have hbx : Box W w.heap.size (.bool neg) (.slice o n cap) 84 := by unfold Box; rw [← hW]; exact Array.getElem?_push_size
  obtain ⟨r0, r1, _, _⟩ := hbx.reads
  have HC := Lib.hid (show Calls Try.prog 33 #[.agg #[.bool neg, .slice o n cap], .int .i32 r] W.drew fun e w' => e = .returned (.bool (hasF xs r)) ∧ w'.cell? ⟨w.heap.size, 0, none⟩ = some (.bool neg) ∧ w'.cell? ⟨w.heap.size, 1, none⟩ = some (.slice o n cap) ∧ Hid (Below w.heap.size w w') by
    have hd : Below W.heap.size W W.drew := (Below.refl _ _).drew
    refine (has_any neg o n cap xs r P W.drew hn hm ((hS.below hb).below hd)).mono fun e w' q => ?_
    have hb2 : Below W.heap.size W w' := hd.trans q.2
    have hbx2 : Box w' w.heap.size (.bool neg) (.slice o n cap) 84 := (hb2.block _ (Array.getElem?_eq_some_iff.1 hbx).1).trans hbx
    exact ⟨q.1, hbx2.reads.1, hbx2.reads.2.1, hb.trans (hb2.mono hb.size)⟩)
  have HW := Lib.hid hW
  obtain ⟨R, hR⟩ : ∃ R, hasF xs r = R := ⟨_, rfl⟩
  rw [hR] at HC ⊢
  have i1 := no80_84
  have i2 := is84
  clear hn hS hb hbx hW hR
  go_enter Try.func29, Try.ntmps29
  go_wp2_with fail
  rw [HW.out]
  go_region_held3 (fun w' => w'.cell? ⟨w.heap.size, 0, none⟩ = some (.bool neg) ∧ w'.cell? ⟨w.heap.size, 1, none⟩ = some (.slice o n cap)) (first | exact ⟨s1, s2⟩ | exact ⟨r0, r1⟩) (first | (go_at_call 33; refine HC.out.mono ?_; rintro e wq ⟨rfl, s1, s2, s3⟩))
  go_wp2_with fail
  go_ret
  exact ⟨rfl, s3.out⟩
/-- Whether a rune is what a part says. -/
theorem fits_any (x : Pt) (v : Value) (r : Int) (P : Nat → Prop) (w : World) (ht : Tree w P v x) :
    Calls Try.prog 29 #[v, .int .i32 r] w fun e w' => e = .returned (.bool (fitsF x r)) ∧ Below w.heap.size w w' := by
  cases ht with
  | only o => exact fits_only o r w
  | dot => exact fits_far 87 _ true r w asks87 (fun W => ⟨_, is87 _ W, rfl⟩)
  | cls neg o n cap xs hn hm h => exact fits_cls neg o n cap xs r P w hn hm h
  | times v2 y a b _ => exact fits_far 69 _ false r w asks69 (fun W => ⟨_, no87_69 _ W, rfl⟩)
  | choice o n cap vs l _ _ _ _ _ => exact fits_far 62 _ false r w asks62 (fun W => ⟨_, no87_62 _ W, rfl⟩)
  | chain o n cap vs l _ _ _ _ _ => exact fits_far 65 _ false r w asks65 (fun W => ⟨_, no87_65 _ W, rfl⟩)
end Go.Proofs.Ytfpdhmecomgbdaa
