/- A range over an iterator that keeps a state of its own in cells: the loop's law. -/
import Derived.RangeFuncNested
import Derived.RangeFuncBound
import Derived.RangeFuncCalls
import Derived.RangeFuncLeaves
import Derived.RangeFuncBox
import Derived.Shelf.RegionOpen
import Derived.OwnWalkIn
import Derived.TacticsInMore
import Derived.LoopNIn
import Derived.LoopIn
import Derived.BigRegionIn
namespace Go.Proofs.YtlnlbahggbbaeaaGreat.Mrg
open Go.RowKit

/-- These blocks alone have turned; others may be new. -/
structure Turns (T : Nat → Prop) (A B : World) : Prop where
  os : B.os = A.os
  tape : B.tape = A.tape
  output : B.output = A.output
  size : A.heap.size ≤ B.heap.size
  block : ∀ k, k < A.heap.size → ¬ T k → B.heap[k]? = A.heap[k]?
theorem Turns.refl (T : Nat → Prop) (A : World) : Turns T A A := ⟨rfl, rfl, rfl, Nat.le_refl _, fun _ _ _ => rfl⟩
theorem Turns.trans {T : Nat → Prop} {A B C : World} (h : Turns T A B) (h2 : Turns T B C) : Turns T A C :=
  ⟨h2.os.trans h.os, h2.tape.trans h.tape, h2.output.trans h.output, Nat.le_trans h.size h2.size, fun k hk hT => (h2.block k (Nat.lt_of_lt_of_le hk h.size) hT).trans (h.block k hk hT)⟩
theorem Turns.of_grown {T : Nat → Prop} {A B : World} {row : Option Nat} (h : A.grownBy B row) (hr : ∀ r, row = some r → T r) : Turns T A B :=
  ⟨h.os, h.tape, h.output, h.size, fun k hk hT => h.block k hk (fun e => hT (hr k e.symm))⟩
theorem Turns.of_below {T : Nat → Prop} {A B : World} (h : Below A.heap.size A B) : Turns T A B := ⟨h.os, h.tape, h.output, h.size, fun k hk _ => h.block k hk⟩
theorem Turns.below {T : Nat → Prop} {A B : World} {N : Nat} (h : Turns T A B) (hN : N ≤ A.heap.size) (hT : ∀ k, T k → N ≤ k) : Below N A B :=
  ⟨h.os, h.tape, h.output, h.size, fun k hk => h.block k (Nat.lt_of_lt_of_le hk hN) (fun ht => by have := hT k ht; omega)⟩
theorem Turns.put {T : Nat → Prop} (A : World) (l : Nat) (o : Obj) (h : T l) : Turns T A (A.putObj l o) := Turns.of_grown (grownBy_putObj' A l o) (fun r e => by cases e; exact h)
theorem Turns.alloc {T : Nat → Prop} (A : World) (o : Obj) : Turns T A (A.alloc o) := Turns.of_below ((Below.refl _ A).alloc (Nat.le_refl _) o)

variable {F : Fence} {n : Nat} {P : Program}

/-- What an iterator with a state of its own owes: N rounds, of each of which V tells what is handed on; its own blocks T turn. -/
def SeqT (F : Fence) (n : Nat) (P : Program) (g : Nat) (lb : Array Value) (V : Nat → Array Value → World → Prop) (Kp : World → World → Prop) (T : Nat → Prop) (N : Nat) (w : World) : Prop :=
  ∀ (l : Nat) (J : Nat → World → Prop) (W : World), Below w.heap.size w W → (∀ k A B, J k A → Turns T A B → J k B) →
    (∀ k v W1, J k W1 → k < N → V k v W1 → YieldAt F (n - 1) P l v W1 fun e W' => e = .returned (.bool true) ∧ J (k + 1) W' ∧ Kp W1 W') →
    J 0 W → CallsIn F n P g (#[.func (.yield l) #[] #[]] ++ lb) W fun e W' => (∃ v, e = .returned v) ∧ J N W'

/-- How a round may be left: it goes on. -/
def onT (B : Nat) (Kp : World → World → Prop) (I : Nat → World → Prop) (k : Nat) (W : World) : Exit → Act → World → Prop
  | .normal, _, W' => KeepsFrom B W W' ∧ Kp W W' ∧ I k W'
  | _, _, _ => False

/-- The blocks that may turn beside a loop: the iterator's, and those laid since that hold no cells. -/
def FreeT (T : Nat → Prop) (B : Nat) (A : World) (r : Nat) : Prop := T r ∨ (B ≤ r ∧ ∃ o : Obj, A.heap[r]? = some o ∧ o.isCells = false)

theorem kept_at {T : Nat → Prop} {A B : World} {k : Nat} {o : Obj} (h : Turns T A B) (hk : A.heap[k]? = some o) (hT : ¬ T k) : B.heap[k]? = some o :=
  (h.block k (Array.getElem?_eq_some_iff.1 hk).1 hT).trans hk

/-- The loop's record, in a state, and the block of what is put off. -/
structure Rec (r : Loop) (l D : Nat) (W : World) : Prop where
  loop : W.heap[l]? = some (.loop r)
  put : W.heap[D]? = some (.deferred (some []))
theorem Rec.turn {r r2 : Loop} {l D : Nat} {W : World} (h : Rec r l D W) (hne : D ≠ l) : Rec r2 l D (W.putObj l (.loop r2)) :=
  ⟨World.putObj_heap_same (Array.getElem?_eq_some_iff.1 h.loop).1, (World.putObj_heap_other hne).trans h.put⟩
theorem Rec.keep {T : Nat → Prop} {r : Loop} {l D : Nat} {A B : World} (h : Rec r l D A) (ht : Turns T A B) (h1 : ¬ T l) (h2 : ¬ T D) : Rec r l D B :=
  ⟨kept_at ht h.loop h1, kept_at ht h.put h2⟩

set_option maxHeartbeats 1000000 in
theorem range_T {g : Operand} {ps : Array Tmp} {assign body : Code} {Q : Exit → Act → World → Prop} {a : Act} {w : World}
    (hro : F.round = none) (h1 : 1 ≤ n) {gf : Nat} {lb : Array Value} (hg : a.eval g = .func (.func gf) #[] lb) (hFg : F.fn gf) (eg : ∀ args w, (callFunc gf args).run P w = .ok (.enter gf args) w)
    {V : Nat → Array Value → World → Prop} {Kp : World → World → Prop} {T : Nat → Prop} {N : Nat} {w0 : World} (hseq : SeqT F (n - 1) P gf lb V Kp T N w0)
    (hKt : ∀ {A B C : World}, Kp A B → Kp B C → Kp A C) (hKb : ∀ (W : World) (l : Nat) (o o' : Obj), w.heap.size ≤ l → W.heap[l]? = some o → o.isCells = false → Kp W (W.putObj l o'))
    (hb0 : Below w0.heap.size w0 w) (hps : ∀ k v W, V k v W → v.size = ps.size) (hT : ∀ r, T r → r < w.heap.size)
    (I : Nat → World → Prop) (hI : ∀ k A B, I k A → Turns (FreeT T w.heap.size A) A B → I k B) (h0 : I 0 w)
    (Ax : Nat → Act → World → Prop) (hAx : ∀ k a A B, Ax k a A → Turns (FreeT T w.heap.size A) A B → Ax k a B)
    (hassign : ∀ (l k : Nat) (v : Array Value) (W : World) (K : Act → World → Prop), I k W → k < N → V k v W → (∀ a' W', KeepsFrom w.heap.size W W' → Kp W W' → I k W' → Ax k a' W' → K a' W') →
      assign.wpIn (F.inRound l) (n - 1 - 1) P (Exit.then K (fun _ _ _ => False)) { tmps := (ps.zip v).foldl (fun t (p, v) => t.setIfInBounds p v) a.tmps, defers := [] } W)
    (hbody : ∀ (l k : Nat) (a' : Act) (W : World), w.heap.size ≤ l → I k W → Ax k a' W → k < N → body.wpIn (F.inRound l) (n - 1 - 1) P (onT w.heap.size Kp I (k + 1) W) a' W)
    (hdone : ∀ (D : Nat) (W : World), w.heap.size ≤ D → I N W → W.heap[D]? = some (.deferred (some [])) → Q .normal { a with defers := { target := .collected D, args := #[] } :: a.defers } W) :
    (Code.rangeFunc g ps assign body).wpIn F n P Q a w := by
  refine wpIn_rangeFunc (fun fn hfn => ?_)
  rw [hro]
  let rc : LoopState → Option Code → Loop := fun st pe => { state := st, pending := pe, fn := fn, tmps := a.tmps, params := ps, assign := assign, body := body, defers := w.heap.size }
  have nT : ∀ {k : Nat} (_ : w.heap.size ≤ k), ¬ T k := fun hk ht => by have := hT _ ht; omega
  obtain ⟨W1, hW1⟩ : ∃ W1, (w.alloc (.deferred (some []))).alloc (.loop (rc .ready none)) = W1 := ⟨_, rfl⟩
  have t1 : Turns (FreeT T w.heap.size w) w W1 := by rw [← hW1]; exact (Turns.alloc w _).trans (Turns.alloc _ _)
  have r1 : Rec (rc .ready none) (w.heap.size + 1) w.heap.size W1 := by
    rw [← hW1]
    refine ⟨?_, ?_⟩
    · have e := World.alloc_heap_new (w.alloc (.deferred (some []))) (.loop (rc .ready none))
      rw [World.size_alloc] at e; exact e
    · exact (Below.heap_alloc _ _ _ (by simp)).trans (World.alloc_heap_new w _)
  have b1 : Below w0.heap.size w0 W1 := by
    rw [← hW1]; exact hb0.trans ((((Below.refl _ w).alloc (Nat.le_refl _) _).alloc (by simp) _).mono hb0.size)
  have h1' : I 0 W1 := hI 0 w W1 h0 t1
  refine ⟨w.heap.size + 1, [{ target := .collected w.heap.size, args := #[] }], W1, { target := .fn (.func gf) lb, args := #[.func (.yield (w.heap.size + 1)) #[] #[]] }, W1, gf,
    #[.func (.yield (w.heap.size + 1)) #[] #[]] ++ lb, W1, ?_, ?_, ?_, ?_, fun _ => h1, ?_⟩
  · rw [← hW1]; exact run_enterLoop_outer _ _ _ _ _
  · simp only [resolve, hg]
    simp [go_sem]
  · intro f' hf'
    simp [Target.leads] at hf'
    subst hf'; exact hFg
  · simp [invoke, go_sem, eg]
  refine (hseq (w.heap.size + 1) (fun k W => I k W ∧ Rec (rc .ready none) (w.heap.size + 1) w.heap.size W) W1 b1 ?_ ?_ ⟨h1', r1⟩).mono ?_
  · rintro k A B ⟨hi, hr⟩ ht
    refine ⟨hI k A B hi ⟨ht.os, ht.tape, ht.output, ht.size, fun j hj hn => ht.block j hj (fun h => hn (.inl h))⟩, hr.keep ht (nT (by omega)) (nT (Nat.le_refl _))⟩
  · rintro k v W ⟨hi, hr⟩ hk hv
    refine ⟨fn, _, assign, body, run_yield hr.loop (hps k v W hv), roundIn_of_wpIn hfn (hassign _ k v W _ hi hk hv fun a' W2 hK2 hKp2 hi2 hA2 => ?_)⟩
    have r2 : Rec (rc .ready none) (w.heap.size + 1) w.heap.size W2 := ⟨hK2.same _ _ (by omega) hr.loop rfl, hK2.same _ _ (Nat.le_refl _) hr.put rfl⟩
    have p2 : ∀ (o : Obj), Turns (FreeT T w.heap.size W2) W2 (W2.putObj (w.heap.size + 1) o) := fun o => Turns.put _ _ _ (.inr ⟨by omega, _, r2.loop, rfl⟩)
    refine ⟨_, run_beginRound r2.loop rfl, wpIn_mono (hbody _ k a' _ (by omega) (hI k _ _ hi2 (p2 _)) (hAx k a' _ _ hA2 (p2 _)) hk) ?_⟩
    have k2 : Kp W2 (W2.putObj (w.heap.size + 1) (.loop { rc .ready none with state := .busy })) := hKb _ _ _ _ (by omega) r2.loop rfl
    have rb := r2.turn (r2 := { rc .ready none with state := .busy }) (by omega)
    rintro e a3 W3 hp
    cases e with
    | normal =>
      obtain ⟨hk3, hkp3, hi3⟩ := hp
      have r3 : Rec { rc .ready none with state := .busy } (w.heap.size + 1) w.heap.size W3 := ⟨hk3.same _ _ (by omega) rb.loop rfl, hk3.same _ _ (Nat.le_refl _) rb.put rfl⟩
      have he := run_endRound (P := P) none r3.loop
      have r4 := r3.turn (r2 := rc .ready none) (by omega)
      refine ⟨_, _, he, rfl, ⟨hI (k + 1) _ _ hi3 (Turns.put _ _ _ (.inr ⟨by omega, _, r3.loop, rfl⟩)), r4⟩, hKt hKp2 (hKt k2 (hKt hkp3 (hKb _ _ _ _ (by omega) r3.loop rfl)))⟩
    | ret => exact hp.elim
    | exit id => exact hp.elim
    | goto t => exact hp.elim
    | panic ch => exact hp.elim
    | outgrown => exact hp.elim
  · rintro e W2 ⟨⟨v, rfl⟩, hi, hr⟩
    refine ⟨none, _, run_endLoop hr.loop (by simp [rc]), hdone _ _ (Nat.le_refl _) (hI N _ _ hi (Turns.put _ _ _ (.inr ⟨by omega, _, hr.loop, rfl⟩))) ?_⟩
    exact (World.putObj_heap_other (by omega)).trans hr.put
end Go.Proofs.YtlnlbahggbbaeaaGreat.Mrg
