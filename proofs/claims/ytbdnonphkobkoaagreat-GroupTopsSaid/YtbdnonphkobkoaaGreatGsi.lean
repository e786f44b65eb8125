/- Groups: a set of labels kept as a map of their texts; how many rows the first groups have; plain. -/
import Derived.Test.YtbdnonphkobkoaaGreatGsa
import Derived.Test.YtbdnonphkobkoaaGreatZeg
namespace Go.Proofs.YtbdnonphkobkoaaGreat.Grp
open Go.RowKit Go.Lib Go.Sort Vec Fix Go.Maps Go.WideMaps

def hasL (s : List Labs) (k : Labs) : Bool := s.any (sameL k)
theorem hasL_iff {s : List Labs} {k : Labs} : hasL s k = true ↔ k ∈ s := by
  unfold hasL
  rw [List.any_eq_true]
  exact ⟨fun ⟨x, hx, e⟩ => (sameL_iff k x).1 e ▸ hx, fun h => ⟨k, h, (sameL_iff k k).2 rfl⟩⟩
theorem hasL_no {s : List Labs} {k : Labs} (h : k ∉ s) : hasL s k = false := Bool.eq_false_iff.2 fun e => h (hasL_iff.1 e)
theorem no_hasL {s : List Labs} {k : Labs} (h : hasL s k = false) : k ∉ s := fun e => by rw [hasL_iff.2 e] at h; cases h
theorem hasL_snoc (s : List Labs) (p k : Labs) : hasL (s ++ [p]) k = (hasL s k || sameL k p) := by unfold hasL; simp
/-- A set of labels, as a map from their texts to true. -/
structure SetOf (D : DataW Unit) (l : List Labs) : Prop where
  isMap : IsMap D
  at0 : ∀ key, rightB key = true → D.atKey (.string (kT key).data.toList) (.lit (.bool false)) = .lit (.bool (hasL l key))
theorem SetOf.nil : SetOf (.map []) [] := ⟨isMap_empty, fun _ _ => rfl⟩
theorem text_lit {x y : Labs} (hx : rightB x = true) (hy : rightB y = true) (hne : x ≠ y) : (Lit.string (kT x).data.toList) ≠ .string (kT y).data.toList := fun e => by
  rw [kT_list, kT_list] at e
  exact hne (text_inj x y (right_names hx) (right_names hy) (Lit.string.inj e))
theorem SetOf.put {D : DataW Unit} {l : List Labs} {p : Labs} (h : SetOf D l) (hp : rightB p = true) : SetOf (D.put (.string (kT p).data.toList) (.lit (.bool true))) (l ++ [p]) := by
  refine ⟨h.isMap.put _ _, fun key hk => ?_⟩
  by_cases e : key = p
  · subst e
    rw [atKey_put_same h.isMap (by simp [WideAt.IsKeyLit]), hasL_snoc, (sameL_iff key key).2 rfl, Bool.or_true]
  · rw [atKey_put_other (text_lit hk hp e), h.at0 key hk, hasL_snoc, Bool.eq_false_iff.2 fun h => e ((sameL_iff key p).1 h), Bool.or_false]
abbrev setMap (w : World) (b n : Nat) (D : DataW Unit) : Prop := w.ownsMap Tryz.prog 9 (plainElem (H := Unit) Tryz.prog 4) b n D
set_option maxRecDepth 100000 in
theorem bool_elem {v : Value} {d : DataW Unit} {ps : List MemPlace} (h : plainElem Tryz.prog 4 v = some (d, ps)) : ∃ b, v = .bool b ∧ d = .lit (.bool b) := by
  unfold plainElem at h
  rw [Tryz.underlying4] at h
  cases v <;> simp at h
  exact ⟨_, rfl, h.1.symm⟩
set_option maxRecDepth 100000 in
/-- What a look-up in the set finds. -/
theorem look_labs {w : World} {m n : Nat} {D : DataW Unit} {l : List Labs} (h : setMap w m n D) (hD : SetOf D l) {key : Labs} (hk : rightB key = true) {s : ByteArray} (hs : kT key = s) (hz : s.size ≤ maxLen) :
    (Instr.lookup 56 (.map (some m)) (.string s) false).run Tryz.prog w = .ok (.bool (hasL l key)) w := by
  subst hs
  have hkey : keyOf Tryz.prog 9 (.string (kT key)) = some (.string (kT key).data.toList) := keyOf_string_mk (P := Tryz.prog) Tryz.underlying9 hz
  obtain ⟨v, ps, hrun, hv⟩ := h.lookup (Maps.string_keyed Tryz.underlying9) Tryz.underlying56 (z := .bool false) (by rfl) (plainElem_bool Tryz.underlying4 false) hkey
  obtain ⟨b, rfl, hb⟩ := bool_elem hv
  rw [hD.at0 key hk] at hb
  cases hb
  exact hrun

/-- Labels stay, whatever is put into a map. -/
theorem labs_map {w w' : World} {mb n : Nat} {D : DataW Unit} {o : Option Addr} {l : Labs} (h : LabS w 0 o l) (hm : setMap w mb n D) (hg : w.grownBy w' (some mb)) : LabS w' 0 o l := by
  by_cases hl : l = []
  · subst hl; exact ⟨.inl rfl, fun h => absurd rfl h⟩
  obtain hs | ⟨b, off, rfl, hs⟩ := h.sees
  · exact absurd hs hl
  obtain hf | ⟨cs, m, hb⟩ := h.far hl b off rfl
  · omega
  have hne : b ≠ mb := by
    rintro rfl
    obtain ⟨es, c, e, _⟩ := hm
    rw [hb] at e; cases e
  have hbk : w'.heap[b]? = w.heap[b]? := hg.block b hs.low (by simp [hne])
  exact ⟨.inr ⟨b, off, rfl, ⟨Nat.lt_of_lt_of_le hs.low hg.size, fun j x hx => (cell_same hbk).trans (hs.at0 j x hx), fun j x hx => (cell_same hbk).trans (hs.at1 j x hx)⟩⟩, fun _ b' off' e => by cases e; exact .inr ⟨cs, m, hbk.trans hb⟩⟩

/-- The text of a row's labels, as the statements tell it. -/
theorem rtext_row (o : Option Addr) (n c : Nat) (l : Labs) (v : Int) (w : World) (hn : l.length = n) (hl : SmL l) (hS : Go.Proofs.YtbdnonphkobkoaaGreat.SeesO w o l) :
    Calls Tryz.prog 30 #[.agg #[.slice o n c, .int .i64 v]] w fun e w' => e = .returned (.string (kT l)) ∧ Below w.heap.size w w' := by
  have H := Lib.hid (fun W (hb : Below w.heap.size w W) => rtext_any o c l W (by have := hl.len; omega) (hS.below hb) hl.sizes)
  rw [hn] at H
  go_enter Tryz.func30, Tryz.ntmps30
  go_wp2_with fail
  refine (H.out _ (by first | exact Below.refl _ _ | exact (Below.refl _ _).alloc (Nat.le_refl _) _)).mono ?_
  rintro e w1 ⟨rfl, b1⟩
  go_wp2
  go_ret
  exact ⟨rfl, by first | exact b1 | exact ((Below.refl _ _).alloc (Nat.le_refl _) _).trans (b1.mono (by simp))⟩

/-- How many rows the first groups have. -/
def cntG (gs : List Grp) (k : Nat) : Nat := ((gs.take k).map fun g => g.2.length).sum
theorem cntG_zero (gs : List Grp) : cntG gs 0 = 0 := rfl
theorem sum_snocN (a : List Nat) (x : Nat) : (a ++ [x]).sum = a.sum + x := by simp
theorem cntG_step {gs : List Grp} {k : Nat} {g : Grp} (h : gs[k]? = some g) : cntG gs (k + 1) = cntG gs k + g.2.length := by
  unfold cntG
  rw [take_atG h, List.map_append]
  exact sum_snocN _ _
theorem flat_lenN : ∀ gs : List Grp, (gs.map fun g => g.2.length).sum = ((gs.map (·.2)).flatten).length
  | [] => rfl
  | g :: gs => by
    have := flat_lenN gs
    simp only [List.map_cons, List.sum_cons, List.flatten_cons, List.length_append]
    omega
theorem cntG_all (mode : Int) (ns : List ByteArray) (xs : List Rw) {m : Nat} (hm : (splitR mode ns xs).length = m) : cntG (splitR mode ns xs) m = xs.length := by
  unfold cntG
  rw [List.take_of_length_le (by rw [hm]; exact Nat.le_refl _), flat_lenN, (split_perm mode ns xs).length_eq]
theorem cntG_le (mode : Int) (ns : List ByteArray) (xs : List Rw) (k : Nat) : cntG (splitR mode ns xs) k ≤ xs.length := by
  have h : ∀ (l : List Nat) (k : Nat), (l.take k).sum ≤ l.sum := fun l => by
    induction l with
    | nil => intro k; simp
    | cons x l ih =>
      intro k
      cases k with
      | zero => simp
      | succ k =>
        have := ih k
        simp only [List.take_succ_cons, List.sum_cons]
        omega
  have h1 := h ((splitR mode ns xs).map fun g => g.2.length) k
  unfold cntG
  rw [List.map_take]
  rw [flat_lenN, (split_perm mode ns xs).length_eq] at h1
  exact h1
theorem by_right {mode : Int} {ns : List ByteArray} {l : Labs} (h : rightB l = true) : rightB (byR mode ns l) = true := by
  unfold byR
  split
  · exact right_key mode ns h
  · rfl
theorem by_small {mode : Int} {ns : List ByteArray} {l : Labs} (h : SmL l) : SmL (byR mode ns l) := by
  unfold byR
  split
  · exact h.key mode ns
  · exact ⟨by simp, fun y hy => by cases hy⟩
/-- No two groups have the same labels. -/
theorem by_new {mode : Int} {ns : List ByteArray} {xs : List Rw} {i : Nat} {g : Grp} (h : (splitR mode ns xs)[i]? = some g) : g.1 ∉ ((splitR mode ns xs).take i).map (·.1) := fun hm => by
  obtain ⟨p, hp, e⟩ := List.mem_map.1 hm
  have hr := split_rise mode ns xs
  obtain ⟨j, hj, ej⟩ := List.getElem_of_mem hp
  have hjl : j < i := by rw [List.length_take] at hj; omega
  obtain ⟨hi, ei⟩ := List.getElem?_eq_some_iff.1 h
  have := List.pairwise_iff_getElem.1 hr j i (by omega) hi hjl
  rw [ei] at this
  rw [List.getElem_take] at ej
  rw [ej, e, cmpL_self] at this
  omega
end Go.Proofs.YtbdnonphkobkoaaGreat.Grp
