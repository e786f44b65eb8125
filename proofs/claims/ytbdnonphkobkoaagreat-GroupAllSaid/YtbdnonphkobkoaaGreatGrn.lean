/- Groups: Split, and Do: the walks. -/
import Derived.Test.YtbdnonphkobkoaaGreatGrf
import Derived.Test.YtbdnonphkobkoaaGreatGrh
import Derived.Test.YtbdnonphkobkoaaGreatGrl
namespace Go.Proofs.YtbdnonphkobkoaaGreat.Grp
open Go.RowKit Go.Lib Go.Sort Vec

theorem split_any (mode : Int) (on o : Option Addr) (nn cn n c : Nat) (ns : List ByteArray) (xs : List Rw) (w : World) (hnn : ns.length = nn) (hn : xs.length = n) (hr : rightR xs = true) (hl : SmR xs) (hmn : nn ≤ maxLen) (hm : n ≤ 1000) (B : Nat) (hB : B ≤ w.heap.size) (hS : RowsS w B o xs) (hN : SeesN w on ns) :
    Calls Tryz.prog 97 #[.int .i64 mode, .slice on nn cn, .slice o n c] w fun e w' => ∃ v2 us2 D, e = .returned v2 ∧ OwnG (EGrp D) 2 115 w' w.heap.size v2 us2 (splitR mode ns xs) ∧ Below w.heap.size w w' := by
  refine ones_any mode on o nn cn n c ns xs w hnn hn hr hl hmn hm B hB hS hN ?_
  intro v us W _ ho _
  obtain ⟨o2, c2, rfl, hs, _⟩ := ho.sees (firmOne (B := 0))
  have hl2 : (Stb.srt ltOne (xs.map (one1 mode ns))).length = n := by rw [Stb.srt_len, List.length_map, hn]
  have e : splitR mode ns xs = joinR ((Stb.srt ltOne (xs.map (one1 mode ns))).map oneOf) := by
    unfold splitR
    rw [srt_map oneOf ltOne ltG (fun _ _ => rfl), List.map_map]
    rfl
  rw [e, hl2]
  exact join_any o2 n c2 _ W hl2 hm hs

def rowsOf (a : Nat × Int) (gs : List Grp) : List Rw := (gs.map fun g => (reckG a g).1).flatten
theorem reck_len (a : Nat × Int) (g : Grp) (h : g.2 ≠ []) : (reckG a g).1.length ≤ g.2.length := by
  have : 0 < g.2.length := List.length_pos_iff.2 h
  unfold reckG
  split
  · simp only [List.length_take, Stb.srt_len]; omega
  · split
    · simp; omega
    · simp
theorem rows_len (a : Nat × Int) : ∀ gs : List Grp, (∀ g ∈ gs, g.2 ≠ []) → (rowsOf a gs).length ≤ ((gs.map (·.2)).flatten).length
  | [], _ => Nat.le_refl _
  | g :: gs, h => by
    have ih := rows_len a gs fun x hx => h x (by simp [hx])
    have := reck_len a g (h g (by simp))
    simp only [rowsOf, List.map_cons, List.flatten_cons, List.length_append] at ih ⊢
    omega
theorem rows_small (a : Nat × Int) (mode : Int) (ns : List ByteArray) (xs : List Rw) (k : Nat) : (rowsOf a ((splitR mode ns xs).take k)).length ≤ xs.length := by
  have h1 := rows_len a ((splitR mode ns xs).take k) (fun g hg => split_ne mode ns xs g (List.mem_of_mem_take hg))
  have h2 := (split_perm mode ns xs).length_eq
  have h3 : ((((splitR mode ns xs).take k).map (·.2)).flatten).length ≤ (((splitR mode ns xs).map (·.2)).flatten).length := by
    conv => rhs; rw [← List.take_append_drop k (splitR mode ns xs)]
    rw [List.map_append, List.flatten_append, List.length_append]; omega
  omega
theorem reck_ne {a : Nat × Int} {g : Grp} (h : g.2 ≠ []) (ha : a.1 = 6 → 1 ≤ a.2) (he : (reckG a g).2 = 0) : (reckG a g).1 ≠ [] := by
  unfold reckG at he ⊢
  split
  · next h6 =>
    intro h0
    have := congrArg List.length h0
    simp only [List.length_take, Stb.srt_len, List.length_nil] at this
    have h1 := ha h6
    have : 0 < g.2.length := List.length_pos_iff.2 h
    omega
  · next h6 =>
    rw [if_neg h6] at he
    split
    · simp
    · next h7 =>
      rw [if_neg h7] at he
      exact absurd he h7
/-- Which aggregations there are. -/
theorem agg_ok {s : ByteArray} {n : Int} {a : Nat × Int} (h : aggF s n = some a) : a.1 < 7 ∧ (a.1 = 6 → 1 ≤ a.2 ∧ a.2 ≤ 2000) ∧ (a.1 = 5 → 0 ≤ a.2 ∧ a.2 ≤ 100) := by
  unfold aggF at h
  repeat' split at h
  all_goals first | (cases h; fail) | skip
  all_goals (try cases h)
  all_goals (simp; try omega)

theorem reckon_any (a : Nat × Int) (ha : a.1 < 7) (ha6 : a.1 = 6 → 1 ≤ a.2 ∧ a.2 ≤ 2000) (oK : Option Addr) (nK cK b n cap : Nat) (g : Grp) (w : World) (hK : g.1.length = nK) (hn : g.2.length = n) (h0 : g.2 ≠ []) (hm : n ≤ 1000) (hL : LabS w 0 oK g.1) (hl : g.1.length ≤ maxLen) (hS : SeesG (ERow 0) 2 w b 0 g.2) :
    Calls Tryz.prog 98 #[aggV a, .agg #[.slice oK nK cK, .slice (some ⟨b, 0, none⟩) n cap]] w (ReckIs w (reckG a g)) := by
  by_cases h6 : a.1 = 6
  · obtain ⟨k, p⟩ := a
    simp at h6 ha6
    subst h6
    exact reckonTop_any p (ha6 rfl).1 (ha6 rfl).2 oK nK cK b n cap g w hn h0 hm hS
  · exact reckonNum_any a (by omega) oK nK cK b n cap g w hK hn h0 hm hL hl hS

set_option maxHeartbeats 4000000 in
set_option maxRecDepth 100000 in
theorem do_bad (name : ByteArray) (n mode : Int) (on o : Option Addr) (nn cn nx c : Nat) (xs : List Rw) (w : World) (hn : xs.length = nx) (hm : nx ≤ maxLen) (B : Nat) (hS : RowsS w B o xs) (h : aggF name n = none ∨ rightR xs = false) :
    Calls Tryz.prog 29 #[.string name, .int .i64 n, .int .i64 mode, .slice on nn cn, .slice o nx c] w fun e w' => e = .returned (.tuple #[.slice none 0 0, .int .i64 1]) ∧ Below w.heap.size w w' := by
  have HR := Lib.hid (read_any name n w)
  have HQ := Lib.hid (right_row o nx c xs w B hn hm hS)
  by_cases ha : aggF name n = none
  · rw [ha] at HR
    clear hS h hn HQ ha
    go_enter Tryz.func29, Tryz.ntmps29
    go_wp2_with fail
    refine HR.out.mono ?_
    rintro e w2 ⟨⟨v, rfl, _⟩, rfl⟩
    go_wp2
    go_ret2
    exact ⟨rfl, Below.refl _ _⟩
  · have hr := h.resolve_left ha
    rw [hr] at HQ
    obtain ⟨a, ha2⟩ : ∃ a, aggF name n = some a := Option.ne_none_iff_exists'.1 ha
    rw [ha2] at HR
    clear hS h hn hr ha ha2
    go_enter Tryz.func29, Tryz.ntmps29
    go_wp2_with fail
    refine HR.out.mono ?_
    rintro e w2 ⟨⟨v, rfl, _⟩, rfl⟩
    go_wp2_with fail
    refine HQ.out.mono ?_
    rintro e w3 ⟨rfl, hb⟩
    have HB := Lib.hid hb
    clear hb
    go_wp2
    go_ret2
    exact ⟨rfl, HB.out⟩
end Go.Proofs.YtbdnonphkobkoaaGreat.Grp
