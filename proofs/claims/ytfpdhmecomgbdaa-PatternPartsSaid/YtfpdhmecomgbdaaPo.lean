/- Patterns: any part is laid. -/
import Derived.Test.YtfpdhmecomgbdaaPn
namespace Go.Proofs.Ytfpdhmecomgbdaa
open Go.RowKit

theorem is62 (v : Value) (W : World) : (Instr.typeAssert (.iface 62 v) 38 62 true).run Try.prog W = .ok (.tuple #[v, .bool true]) W := by kernel_rfl
theorem is65 (v : Value) (W : World) : (Instr.typeAssert (.iface 65 v) 38 65 true).run Try.prog W = .ok (.tuple #[v, .bool true]) W := by kernel_rfl
theorem is69 (v : Value) (W : World) : (Instr.typeAssert (.iface 69 v) 38 69 true).run Try.prog W = .ok (.tuple #[v, .bool true]) W := by kernel_rfl
theorem no62_65 (v : Value) (W : World) : (Instr.typeAssert (.iface 65 v) 38 62 true).run Try.prog W = .ok (.tuple #[.slice none 0 0, .bool false]) W := by kernel_rfl
theorem no62_69 (v : Value) (W : World) : (Instr.typeAssert (.iface 69 v) 38 62 true).run Try.prog W = .ok (.tuple #[.slice none 0 0, .bool false]) W := by kernel_rfl
theorem no62_80 (v : Value) (W : World) : (Instr.typeAssert (.iface 80 v) 38 62 true).run Try.prog W = .ok (.tuple #[.slice none 0 0, .bool false]) W := by kernel_rfl
theorem no62_84 (v : Value) (W : World) : (Instr.typeAssert (.iface 84 v) 38 62 true).run Try.prog W = .ok (.tuple #[.slice none 0 0, .bool false]) W := by kernel_rfl
theorem no62_87 (v : Value) (W : World) : (Instr.typeAssert (.iface 87 v) 38 62 true).run Try.prog W = .ok (.tuple #[.slice none 0 0, .bool false]) W := by kernel_rfl
theorem no65_69 (v : Value) (W : World) : (Instr.typeAssert (.iface 69 v) 38 65 true).run Try.prog W = .ok (.tuple #[.slice none 0 0, .bool false]) W := by kernel_rfl
theorem no65_80 (v : Value) (W : World) : (Instr.typeAssert (.iface 80 v) 38 65 true).run Try.prog W = .ok (.tuple #[.slice none 0 0, .bool false]) W := by kernel_rfl
theorem no65_84 (v : Value) (W : World) : (Instr.typeAssert (.iface 84 v) 38 65 true).run Try.prog W = .ok (.tuple #[.slice none 0 0, .bool false]) W := by kernel_rfl
theorem no65_87 (v : Value) (W : World) : (Instr.typeAssert (.iface 87 v) 38 65 true).run Try.prog W = .ok (.tuple #[.slice none 0 0, .bool false]) W := by kernel_rfl
theorem no69_80 (v : Value) (W : World) : (Instr.typeAssert (.iface 80 v) 38 69 true).run Try.prog W = .ok (.tuple #[.agg #[.nilIface, .bool false, .bool false], .bool false]) W := by kernel_rfl
theorem no69_84 (v : Value) (W : World) : (Instr.typeAssert (.iface 84 v) 38 69 true).run Try.prog W = .ok (.tuple #[.agg #[.nilIface, .bool false, .bool false], .bool false]) W := by kernel_rfl
theorem no69_87 (v : Value) (W : World) : (Instr.typeAssert (.iface 87 v) 38 69 true).run Try.prog W = .ok (.tuple #[.agg #[.nilIface, .bool false, .bool false], .bool false]) W := by kernel_rfl

/-- A call whose result is stored in a box of the call's own, ahead of the return. -/
theorem LayRes.put {w W w1 : World} {bp : Nat} {t a b c p q r : Value} {T : Eg × Gr} {e : Ending} (h : LayRes W bp t a b c T e w1) (hW : Below w.heap.size w W) (hk : Box3 W w.heap.size (.bool false) (.int .u64 0) (.int .u64 0) 49) (hlt : bp < w.heap.size) :
    GrAt (((w1.setCell ⟨w.heap.size, 0, none⟩ p).setCell ⟨w.heap.size, 1, none⟩ q).setCell ⟨w.heap.size, 2, none⟩ r) bp t a b c T.2 ∧ Below bp w (((w1.setCell ⟨w.heap.size, 0, none⟩ p).setCell ⟨w.heap.size, 1, none⟩ q).setCell ⟨w.heap.size, 2, none⟩ r) ∧ Tys w (((w1.setCell ⟨w.heap.size, 0, none⟩ p).setCell ⟨w.heap.size, 1, none⟩ q).setCell ⟨w.heap.size, 2, none⟩ r) :=
  put_done h.2.1 (hk.tys h.2.2.2 (by decide) (by decide) (by decide)) ((hW.mono (Nat.le_of_lt hlt)).trans h.2.2.1) ((Tys.of_below hW).trans h.2.2.2) (Nat.le_refl _) hlt

set_option maxHeartbeats 4000000 in
set_option maxRecDepth 100000 in
theorem lay_choice (l : List Pt) (hx : ∀ x ∈ l, LayC x) : LayC (.choice l) := by
  intro w bp t a b c v g h ht hs hok
  have hlt := h.lt
  cases ht with
  | choice o n cap vs _ hn hl hm hsee hkids =>
    have hb0 : Below w.heap.size w (w.alloc (Obj.cells #[.bool false, .int .u64 0, .int .u64 0] 49)) := (Below.refl _ _).alloc (Nat.le_refl _) _
    have hk0 : Box3 (w.alloc (Obj.cells #[.bool false, .int .u64 0, .int .u64 0] 49)) w.heap.size (.bool false) (.int .u64 0) (.int .u64 0) 49 := Array.getElem?_push_size
    have hL : ListAt w bp o vs l := ⟨hsee, by omega, hkids⟩
    have hL2 : ListAt (w.alloc (Obj.cells #[.bool false, .int .u64 0, .int .u64 0] 49)) bp o vs l := ⟨hsee.keep fun k hp hl => ⟨hb0.block k hl, hp⟩, hL.len, fun j u x hu hx => (hkids j u x hu hx).stays hb0⟩
    have HC := Lib.hid (layChoice_of l hx _ bp t a b c g o n cap vs (h.below hb0) hL2 hl hm hs hok)
    rw [layF]
    obtain ⟨T, hT⟩ : ∃ T, layAlts l ⟨false, 0, 0⟩ g = T := ⟨_, rfl⟩
    rw [hT] at HC ⊢
    have HK := Lib.hid (And.intro hb0 hk0)
    clear h hsee hkids hL hL2 hb0 hk0 hT hs hok hx
    have i1 := is62
    go_enter Try.func19, Try.ntmps19
    go_wp2_with fail
    refine HC.out.mono ?_
    intro e w1 H1
    have h1 := H1
    obtain ⟨rfl, _, _, ht1⟩ := h1
    have hbx := HK.out.2.tys ht1 (by decide) (by decide) (by decide)
    obtain ⟨x0, x1, x2, y0, y1, y2⟩ := hbx.reads
    have HP := Lib.hid (fun p q r => LayRes.put (p := p) (q := q) (r := r) H1 HK.out.1 HK.out.2 hlt)
    clear H1 ht1 hbx HC
    go_wp2_with fail
    obtain ⟨k1, k2, k3⟩ := HP.out (.bool T.1.none) (.int .u64 (T.1.first : Int)) (.int .u64 (T.1.last : Int))
    refine bodyPost_ret (v := .agg #[.bool T.1.none, .int .u64 T.1.first, .int .u64 T.1.last]) (by simp [results, Try.results19, go_sem, x0, x1, x2]) rfl ⟨rfl, k1, k2, k3⟩
set_option maxHeartbeats 4000000 in
set_option maxRecDepth 100000 in
theorem lay_chain (l : List Pt) (hx : ∀ x ∈ l, LayC x) : LayC (.chain l) := by
  intro w bp t a b c v g h ht hs hok
  have hlt := h.lt
  cases ht with
  | chain o n cap vs _ hn hl hm hsee hkids =>
    have hb0 : Below w.heap.size w (w.alloc (Obj.cells #[.bool false, .int .u64 0, .int .u64 0] 49)) := (Below.refl _ _).alloc (Nat.le_refl _) _
    have hk0 : Box3 (w.alloc (Obj.cells #[.bool false, .int .u64 0, .int .u64 0] 49)) w.heap.size (.bool false) (.int .u64 0) (.int .u64 0) 49 := Array.getElem?_push_size
    have hL : ListAt w bp o vs l := ⟨hsee, by omega, hkids⟩
    have hL2 : ListAt (w.alloc (Obj.cells #[.bool false, .int .u64 0, .int .u64 0] 49)) bp o vs l := ⟨hsee.keep fun k hp hl => ⟨hb0.block k hl, hp⟩, hL.len, fun j u x hu hx => (hkids j u x hu hx).stays hb0⟩
    have HC := Lib.hid (layChain_of l hx _ bp t a b c g o n cap vs (h.below hb0) hL2 hl hm hs hok)
    rw [layF]
    obtain ⟨T, hT⟩ : ∃ T, laySeq l ⟨true, 0, 0⟩ g = T := ⟨_, rfl⟩
    rw [hT] at HC ⊢
    have HK := Lib.hid (And.intro hb0 hk0)
    clear h hsee hkids hL hL2 hb0 hk0 hT hs hok hx
    have i1 := no62_65
    have i2 := is65
    go_enter Try.func19, Try.ntmps19
    go_wp2_with fail
    refine HC.out.mono ?_
    intro e w1 H1
    have h1 := H1
    obtain ⟨rfl, _, _, ht1⟩ := h1
    have hbx := HK.out.2.tys ht1 (by decide) (by decide) (by decide)
    obtain ⟨x0, x1, x2, y0, y1, y2⟩ := hbx.reads
    have HP := Lib.hid (fun p q r => LayRes.put (p := p) (q := q) (r := r) H1 HK.out.1 HK.out.2 hlt)
    clear H1 ht1 hbx HC
    go_wp2_with fail
    obtain ⟨k1, k2, k3⟩ := HP.out (.bool T.1.none) (.int .u64 (T.1.first : Int)) (.int .u64 (T.1.last : Int))
    refine bodyPost_ret (v := .agg #[.bool T.1.none, .int .u64 T.1.first, .int .u64 T.1.last]) (by simp [results, Try.results19, go_sem, x0, x1, x2]) rfl ⟨rfl, k1, k2, k3⟩
set_option maxHeartbeats 4000000 in
set_option maxRecDepth 100000 in
theorem lay_times (x : Pt) (a1 b1 : Bool) (hx : LayC x) : LayC (.times x a1 b1) := by
  intro w bp t a b c v g h ht hs hok
  have hlt := h.lt
  cases ht with
  | times v2 _ _ _ hv =>
    obtain ⟨tv, uv, rfl⟩ := hv.iface
    obtain ⟨W, hW⟩ : ∃ W, (w.alloc (Obj.cells #[.bool false, .int .u64 0, .int .u64 0] 49)).alloc (Obj.cells #[.iface tv uv, .bool a1, .bool b1] 69) = W := ⟨_, rfl⟩
    have hb0 : Below w.heap.size w W := by rw [← hW]; exact ((Below.refl _ _).alloc (Nat.le_refl _) _).alloc (by simp) _
    have hk0 : Box3 W w.heap.size (.bool false) (.int .u64 0) (.int .u64 0) 49 := by
      unfold Box3
      rw [← hW, Below.heap_alloc _ _ _ (by simp)]
      exact Array.getElem?_push_size
    have HC := Lib.hid (layTimes_of x hx a1 b1 W bp t a b c (.iface tv uv) g (h.below hb0) (hv.stays hb0) hs hok)
    rw [layF]
    obtain ⟨T, hT⟩ : ∃ T, timesG a1 b1 (layF x g) = T := ⟨_, rfl⟩
    rw [hT] at HC ⊢
    have HK := Lib.hid (And.intro hb0 hk0)
    have HW := Lib.hid hW
    clear h hv hb0 hk0 hT hs hok hx hW
    have i1 := no62_69
    have i2 := no65_69
    have i3 := is69
    go_enter Try.func19, Try.ntmps19
    go_wp2_with fail
    rw [HW.out]
    refine HC.out.mono ?_
    intro e w1 H1
    have h1 := H1
    obtain ⟨rfl, _, _, ht1⟩ := h1
    have hbx := HK.out.2.tys ht1 (by decide) (by decide) (by decide)
    obtain ⟨x0, x1, x2, y0, y1, y2⟩ := hbx.reads
    have HP := Lib.hid (fun p q r => LayRes.put (p := p) (q := q) (r := r) H1 HK.out.1 HK.out.2 hlt)
    clear H1 ht1 hbx HC
    go_wp2_with fail
    obtain ⟨k1, k2, k3⟩ := HP.out (.bool T.1.none) (.int .u64 (T.1.first : Int)) (.int .u64 (T.1.last : Int))
    refine bodyPost_ret (v := .agg #[.bool T.1.none, .int .u64 T.1.first, .int .u64 T.1.last]) (by simp [results, Try.results19, go_sem, x0, x1, x2]) rfl ⟨rfl, k1, k2, k3⟩
/-- An atom, by the number of its kind. -/
def AtomV (ty : TypeId) : Prop := (∀ (v : Value) (W : World), (Instr.typeAssert (.iface ty v) 38 62 true).run Try.prog W = .ok (.tuple #[.slice none 0 0, .bool false]) W) ∧ (∀ (v : Value) (W : World), (Instr.typeAssert (.iface ty v) 38 65 true).run Try.prog W = .ok (.tuple #[.slice none 0 0, .bool false]) W) ∧ ∀ (v : Value) (W : World), (Instr.typeAssert (.iface ty v) 38 69 true).run Try.prog W = .ok (.tuple #[.agg #[.nilIface, .bool false, .bool false], .bool false]) W
set_option maxHeartbeats 4000000 in
set_option maxRecDepth 100000 in
theorem lay_atom (x : Pt) (hx1 : x.size = 1) (hf : ∀ g, layF x g = layAtomF x g) (ty : TypeId) (u : Value) (hA : AtomV ty) (w : World) (bp : Nat) (t a b c : Value) (g : Gr) (h : GrAt w bp t a b c g) (ht : Tree w (fun k => k < bp) (.iface ty u) x) (hs : g.atoms.length + x.size ≤ 64) (hok : GrOk g) :
    Calls Try.prog 19 #[.pointer (some ⟨bp, 1, none⟩), .iface ty u] w (LayRes w bp t a b c (layF x g)) := by
  have hlt := h.lt
  obtain ⟨W, hW⟩ : ∃ W, (w.alloc (Obj.cells #[.bool false, .int .u64 0, .int .u64 0] 49)).alloc (Obj.cells #[.nilIface, .bool false, .bool false] 69) = W := ⟨_, rfl⟩
  have hb0 : Below w.heap.size w W := by rw [← hW]; exact ((Below.refl _ _).alloc (Nat.le_refl _) _).alloc (by simp) _
  have hk0 : Box3 W w.heap.size (.bool false) (.int .u64 0) (.int .u64 0) 49 := by
    unfold Box3
    rw [← hW, Below.heap_alloc _ _ _ (by simp)]
    exact Array.getElem?_push_size
  have HC := Lib.hid (show Calls Try.prog 28 #[.pointer (some ⟨bp, 1, none⟩), .iface ty u] W (LayRes W bp t a b c (layAtomF x g)) from layAtom_any bp t a b c g (.iface ty u) x W (h.below hb0) (ht.stays hb0) (by omega) hok)
  rw [hf]
  obtain ⟨T, hT⟩ : ∃ T, layAtomF x g = T := ⟨_, rfl⟩
  rw [hT] at HC ⊢
  have HK := Lib.hid (And.intro hb0 hk0)
  have HW := Lib.hid hW
  obtain ⟨i1, i2, i3⟩ := hA
  clear h ht hb0 hk0 hT hs hok hx1 hf hW
  go_enter Try.func19, Try.ntmps19
  go_wp2_with fail
  rw [HW.out]
  refine HC.out.mono ?_
  intro e w1 H1
  have h1 := H1
  obtain ⟨rfl, _, _, ht1⟩ := h1
  have hbx := HK.out.2.tys ht1 (by decide) (by decide) (by decide)
  obtain ⟨x0, x1, x2, y0, y1, y2⟩ := hbx.reads
  have HP := Lib.hid (fun p q r => LayRes.put (p := p) (q := q) (r := r) H1 HK.out.1 HK.out.2 hlt)
  clear H1 ht1 hbx HC
  go_wp2_with fail
  obtain ⟨k1, k2, k3⟩ := HP.out (.bool T.1.none) (.int .u64 (T.1.first : Int)) (.int .u64 (T.1.last : Int))
  refine bodyPost_ret (v := .agg #[.bool T.1.none, .int .u64 T.1.first, .int .u64 T.1.last]) (by simp [results, Try.results19, go_sem, x0, x1, x2]) rfl ⟨rfl, k1, k2, k3⟩

theorem lay_any : ∀ x : Pt, LayC x
  | .choice l => lay_choice l (fun y hy => lay_any y)
  | .chain l => lay_chain l (fun y hy => lay_any y)
  | .times x a b => lay_times x a b (lay_any x)
  | .only r => fun w bp t a b c v g h ht hs hok => by
    cases ht with
    | only r => exact lay_atom (.only r) rfl (fun g => by rw [layF]) 80 _ ⟨no62_80, no65_80, no69_80⟩ w bp t a b c g h (.only r) hs hok
  | .cls n xs => fun w bp t a b c v g h ht hs hok => by
    cases ht with
    | cls _ o k cap _ hn hm hse => exact lay_atom (.cls n xs) rfl (fun g => by rw [layF]) 84 _ ⟨no62_84, no65_84, no69_84⟩ w bp t a b c g h (.cls n o k cap xs hn hm hse) hs hok
  | .dot => fun w bp t a b c v g h ht hs hok => by
    cases ht with
    | dot => exact lay_atom .dot rfl (fun g => by rw [layF]) 87 _ ⟨no62_87, no65_87, no69_87⟩ w bp t a b c g h .dot hs hok
end Go.Proofs.Ytfpdhmecomgbdaa
