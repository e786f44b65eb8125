/- A leaf that has turned goes up the tree: the walk. -/
import Derived.Test.YtlnlbahggbbaeaaGreatMlc
import Derived.Test.YtlnlbahggbbaeaaGreatMla
namespace Go.Proofs.YtlnlbahggbbaeaaGreat.Mrg
open Go.RowKit Go.Lib Go.Proofs.YtlnlbahggbbaeaaGreat Go.Proofs.YtlnlbahggbbaeaaGreat.Vec Go.Proofs.YtlnlbahggbbaeaaGreat.Stb

theorem TreeM.turns {w w' : World} {tb bl bo cl n : Nat} {by_ : Int} {ms : List Ls} {los : Nat → Nat} (h : TreeM w tb bl bo cl n by_ ms los) {T : Nat → Prop} (ht : Turns T w w') (h1 : ¬ T tb) (h2 : ¬ T bl) (h3 : ¬ T bo) : TreeM w' tb bl bo cl n by_ ms los :=
  h.keep (ht.block _ h.lt h1) (ht.block _ h.leafLt h2) (ht.block _ h.los.lt h3)
theorem Turns.set {T : Nat → Prop} (w : World) (a : Addr) (v : Value) (h : T a.block) : Turns T w (w.setCell a v) :=
  ⟨rfl, rfl, rfl, by simp [World.setCell], fun k _ hk => Below.heap_setCell w a v k (fun e => hk (e ▸ h))⟩
theorem Turns.mono {T T' : Nat → Prop} {A B : World} (h : Turns T A B) (hT : ∀ k, T k → T' k) : Turns T' A B := ⟨h.os, h.tape, h.output, h.size, fun k hk hn => h.block k hk (fun ht => hn (hT k ht))⟩

set_option maxHeartbeats 4000000 in
set_option maxRecDepth 100000 in
theorem climb_any {B tb bl bo cl n : Nat} {by_ : Int} {ms : List Ls} {los0 W0 : Nat → Nat} {w0 w : World} (h : TreeM w tb bl bo cl n by_ ms los0) (hN : w0.heap.size ≤ bo) (hb : Below w0.heap.size w0 w) (hR : ∀ m ∈ ms, LsS w0 B m) (p : Nat)
    (hC : ClimbT (lessR by_) (lsx ms) n los0 W0 (n + p) p) (hp : p < n) (hn : n ≤ 1000) :
    Calls Tryz.prog 73 #[.pointer (some ⟨tb, 0, none⟩), .int .i64 p] w fun e w' => e = .returned (.tuple #[]) ∧ (∃ los W, TreeM w' tb bl bo cl n by_ ms los ∧ TreeT (lessR by_) (lsx ms) n los W) ∧ Turns (fun r => r = bo) w w' := by
  have t1 := h.c1
  have wk : IntKind.i64.wrap ((n : Int) + p) = n + p := by rw [IntKind.wrap_i64]; omega
  have H0 := Lib.hid h
  have HC := Lib.hid hC
  clear h hC
  go_enter Tryz.func73, Tryz.ntmps73
  go_wp2
  go_loopw [1, 4] (fun v1 v4 wr => ∃ (c pl : Nat) (los W : Nat → Nat), v1 = .int .i64 pl ∧ v4 = .int .i64 ((c / 2 : Nat) : Int) ∧ Hid (ClimbT (lessR by_) (lsx ms) n los W c pl) ∧ Hid (TreeM wr tb bl bo cl n by_ ms los) ∧ Hid (Turns (fun r => r = bo) w wr)) (fun _ v4 _ => (Go.RowKit.intOf v4).toNat)
  case atStart => exact ⟨n + p, p, los0, W0, rfl, by go_num, HC, H0, Turns.refl _ _⟩
  case round =>
    obtain ⟨c, pl, los, W, rfl, rfl, hc, hm, ht⟩ := hrel
    have hbr : Below w0.heap.size w0 wr := hb.trans (ht.out.below hb.size (fun k e => by omega))
    have HR : Hid (∀ W, Below wr.heap.size wr W → ∀ m ∈ ms, LsS W B m) := Lib.hid (fun W hW m hm => (hR m hm).below (hbr.trans (hW.mono hbr.size)))
    by_cases hv : 1 ≤ c / 2
    · have HS := Lib.hid (ClimbT.step (swo_less by_) hc.out hv)
      have hc2 := hc.out.c2
      have hpl : pl < n := by rw [← hc.out.here]; exact hc.out.wb c hc2
      have hlo : los (c / 2) < n := hc.out.los_lt _ hv (by omega)
      obtain ⟨v, hvv⟩ : ∃ v, c / 2 = v := ⟨_, rfl⟩
      rw [hvv] at HS hlo hv ⊢
      have hvn : v < n := by omega
      obtain ⟨x, hx⟩ : ∃ x, holdT (lessR by_) (lsx ms) pl (los v) = x := ⟨_, rfl⟩
      rw [hx] at HS
      have r1 := hm.out.c2
      have r2 : wr.cell? ⟨bo, v, none⟩ = some (.int .i64 (los v : Nat)) := hm.out.los.cell hvn
      have r3 := hm.out.los.frozen v
      have HA := Lib.hid (fun (W : World) (hW : Hid (Below wr.heap.size wr W)) => (hold_any (hm.out.below hW.out) (HR.out W hW.out) pl (los v) hpl hlo).mono (fun e w' q => show e = .returned (.tuple #[.int .i64 (x.1 : Nat), .int .i64 (x.2 : Nat)]) ∧ (w'.cell? ⟨tb, 2, none⟩ = some (.slice (some ⟨bo, 0, none⟩) n n) ∧ w'.cell? ⟨bo, v, none⟩ = some (.int .i64 (los v : Nat)) ∧ w'.frozen? ⟨bo, v, none⟩ = false) ∧ Hid (Below wr.heap.size wr w') from by
        have h2 := hW.out.trans (q.2.mono hW.out.size)
        have h3 := hm.out.below h2
        rw [← hx]
        exact ⟨q.1, ⟨h3.c2, h3.los.cell hvn, h3.los.frozen v⟩, h2⟩))
      have rb := Lib.hid (Below.refl wr.heap.size wr).drew
      obtain ⟨lv, hlv⟩ : ∃ lv, los v = lv := ⟨_, rfl⟩
      rw [hlv] at HA r2
      have HX := Lib.hid hx
      have HV := Lib.hid hvv
      have i1 : (v : Int) < n := by omega
      have i2 : (0 : Int) ≤ v := by omega
      have i3 : (0 : Int) < v := by omega
      have i4 : 0 < v := hv
      have hto := hm.out.to
      clear hbr HR hc2 hpl hlo hvv hx hlv hv
      go_wp2_with fail
      go_region_with (go_at_call 71; refine (HA.out _ rb).mono ?_; rintro e wq ⟨rfl, ⟨s1, s2, s3⟩, sb⟩)
      all_goals
        have hm2 := Lib.hid ((hm.out.below sb.out).setLos v x.2)
        have ht2 := Lib.hid ((ht.out.trans (Turns.of_below sb.out)).trans (Turns.set (T := fun r => r = bo) wq ⟨bo, v, none⟩ (.int .i64 (x.2 : Nat)) rfl))
        clear r1 r2 r3 s1 s2 s3 HA rb
        go_wp2
        go_roundw
        case rel => exact ⟨v, x.1, updT los v x.2, updT W v x.1, rfl, by go_num, HS, hm2, ht2⟩
        case measure => simp [Go.RowKit.intOf]; omega
    · have hv0 : c / 2 = 0 := by omega
      rw [hv0]
      have r1 := hm.out.c2
      have hn1 : 0 < n := by omega
      have r2 : wr.cell? ⟨bo, 0, none⟩ = some (.int .i64 (los 0 : Nat)) := hm.out.los.cell hn1
      have r3 := hm.out.los.frozen 0
      have HT := Lib.hid (hc.out.done hv0)
      have hm2 := Lib.hid (hm.out.setLos 0 pl)
      have ht2 := Lib.hid (ht.out.trans (Turns.set (T := fun r => r = bo) wr ⟨bo, 0, none⟩ (.int .i64 (pl : Nat)) rfl))
      clear hv hv0 hbr HR
      go_wp2
      go_end0
      exact ⟨rfl, ⟨_, _, hm2.out, HT.out⟩, ht2.out⟩
end Go.Proofs.YtlnlbahggbbaeaaGreat.Mrg
