/- Groups: the greatest rows of each group, plain. -/
import Derived.Test.YtbdnonphkobkoaaGreatGsi
namespace Go.Proofs.YtbdnonphkobkoaaGreat.Grp
open Go.RowKit Go.Lib Go.Sort Vec Fix

/-- The greatest rows of a group, at most so many. -/
def topG (n : Nat) (g : Grp) : List Rw := (Stb.srt ltV g.2).take n
theorem rows_top (n : Nat) (gs : List Grp) : rowsOf (6, (n : Int)) gs = (gs.map (topG n)).flatten := by
  unfold rowsOf
  congr 1
theorem top_mem {n : Nat} {g : Grp} {r : Rw} (h : r ∈ topG n g) : r ∈ g.2 := (Stb.srt_perm (lt := ltV) g.2).mem_iff.1 (List.mem_of_mem_take h)
theorem top_low {n : Nat} {g : Grp} {r o : Rw} (hr : r ∈ topG n g) (ho : o ∈ g.2) (hno : o ∉ topG n g) : ¬ r.2 < o.2 := by
  have hs := Stb.srt_srtd swoV g.2
  have hm : o ∈ Stb.srt ltV g.2 := (Stb.srt_perm (lt := ltV) g.2).mem_iff.2 ho
  unfold topG at hr hno
  rw [← List.take_append_drop n (Stb.srt ltV g.2)] at hs hm
  rcases List.mem_append.1 hm with h | h
  · exact absurd h hno
  · have := (List.pairwise_append.1 hs).2.2 r hr o h
    unfold ltV at this
    simpa using this
theorem top_len (n : Nat) (g : Grp) : (topG n g).length = min n g.2.length := by
  unfold topG
  rw [List.length_take, Stb.srt_len]
theorem top_more {n k : Nat} (h : n ≤ k) {g : Grp} {r : Rw} (hr : r ∈ topG n g) : r ∈ topG k g := by
  unfold topG at *
  have e : (Stb.srt ltV g.2).take n = ((Stb.srt ltV g.2).take k).take n := by rw [List.take_take, Nat.min_eq_left h]
  rw [e] at hr
  exact List.mem_of_mem_take hr
theorem group_same {mode : Int} {ns : List ByteArray} {a : List Rw} {g g' : Grp} (h : g ∈ splitR mode ns a) (h' : g' ∈ splitR mode ns a) (e : g.1 = g'.1) : g = g' := by
  obtain ⟨i, hi, rfl⟩ := List.getElem_of_mem h
  obtain ⟨j, hj, rfl⟩ := List.getElem_of_mem h'
  have hr := split_rise mode ns a
  by_cases hij : i = j
  · subst hij; rfl
  rcases Nat.lt_or_gt_of_ne hij with h1 | h1
  · have := List.pairwise_iff_getElem.1 hr i j hi hj h1
    rw [e, cmpL_self] at this
    omega
  · have := List.pairwise_iff_getElem.1 hr j i hj hi h1
    rw [e, cmpL_self] at this
    omega
theorem rows_nodup {a : List Rw} (h : rightR a = true) : a.Nodup := by
  have := (rises_iff a).1 (right_fit h).2.2
  exact this.imp fun {x y} hxy e => by subst e; rw [cmpL_self] at hxy; omega
theorem group_nodup {mode : Int} {ns : List ByteArray} {a : List Rw} (h : rightR a = true) {g : Grp} (hg : g ∈ splitR mode ns a) : g.2.Nodup := by
  have h1 := (split_perm mode ns a).nodup_iff.2 (rows_nodup h)
  exact (List.pairwise_flatten.1 h1).1 g.2 (List.mem_map.2 ⟨g, hg, rfl⟩)
theorem top_nodup {n : Nat} {g : Grp} (h : g.2.Nodup) : (topG n g).Nodup :=
  (List.take_sublist _ _).nodup ((Stb.srt_perm (lt := ltV) g.2).nodup_iff.2 h)
theorem count_in {α : Type} {t l : List α} {p : α → Bool} (hp : ∀ x ∈ l, p x = true ↔ x ∈ t) (ht : t.Nodup) (hl : l.Nodup) (h : ∀ x ∈ t, x ∈ l) : (l.filter p).length = t.length :=
  ((List.perm_ext_iff_of_nodup (List.filter_sublist.nodup hl) ht).2 fun x => by
    rw [List.mem_filter]
    exact ⟨fun hx => (hp x hx.1).1 hx.2, fun hx => ⟨h x hx, (hp x (h x hx)).2 hx⟩⟩).length_eq
/-- A row of a group is among the greatest ones just if its labels are. -/
theorem top_in {mode : Int} {ns : List ByteArray} {a x : List Rw} {n : Nat} (har : rightR a = true) (hx : x.Perm (rowsOf (6, (n : Int)) (splitR mode ns a))) {g : Grp} (hg : g ∈ splitR mode ns a) {r : Rw} (hr : r ∈ g.2) :
    r.1 ∈ x.map (·.1) ↔ r ∈ topG n g := by
  rw [rows_top] at hx
  constructor
  · intro h
    obtain ⟨r', hr', e⟩ := List.mem_map.1 h
    obtain ⟨t, ht, hrt⟩ := List.mem_flatten.1 (hx.mem_iff.1 hr')
    obtain ⟨g', hg', rfl⟩ := List.mem_map.1 ht
    have hm' := top_mem hrt
    have es : r' = r := same_labs (right_fit har).2.2 r' (split_mem hg' hm') r (split_mem hg hr) e
    subst es
    have eg : g = g' := group_same hg hg' (by rw [← split_by mode ns a g hg r' hr, split_by mode ns a g' hg' r' hm'])
    subst eg
    exact hrt
  · intro h
    exact List.mem_map.2 ⟨r, hx.mem_iff.2 (List.mem_flatten.2 ⟨_, List.mem_map.2 ⟨g, hg, rfl⟩, h⟩), rfl⟩
/-- How many of a list's first rows are among those. -/
def inN (l : List Rw) (s : List Labs) (k : Nat) : Nat := ((l.take k).filter fun r => hasL s r.1).length
theorem inN_zero (l : List Rw) (s : List Labs) : inN l s 0 = 0 := by unfold inN; simp
theorem inN_yes {l : List Rw} {s : List Labs} {k : Nat} {r : Rw} (h : l[k]? = some r) (hr : hasL s r.1 = true) : inN l s (k + 1) = inN l s k + 1 := by
  unfold inN
  rw [take_atG h, List.filter_append]
  simp [hr]
theorem inN_no {l : List Rw} {s : List Labs} {k : Nat} {r : Rw} (h : l[k]? = some r) (hr : hasL s r.1 = false) : inN l s (k + 1) = inN l s k := by
  unfold inN
  rw [take_atG h, List.filter_append]
  simp [hr]
theorem inN_le (l : List Rw) (s : List Labs) (k : Nat) : inN l s k ≤ k := by
  unfold inN
  have h1 := List.length_filter_le (fun r : Rw => hasL s r.1) (l.take k)
  have h2 := List.length_take_le k l
  omega
theorem inN_all {mode : Int} {ns : List ByteArray} {a x : List Rw} {n : Nat} (har : rightR a = true) (hx : x.Perm (rowsOf (6, (n : Int)) (splitR mode ns a))) {g : Grp} (hg : g ∈ splitR mode ns a) {m : Nat} (hm : g.2.length = m) : inN g.2 (x.map (·.1)) m = min n m := by
  have hn := group_nodup har hg
  unfold inN
  rw [List.take_of_length_le (by omega), count_in (t := topG n g) (fun r hr => hasL_iff.trans (top_in har hx hg hr)) (top_nodup hn) hn fun r hr => top_mem hr, top_len, hm]
/-- How many rows the first groups keep. -/
def keepN (n : Nat) (gs : List Grp) (k : Nat) : Nat := ((gs.take k).map fun g => min n g.2.length).sum
theorem keepN_step {n : Nat} {gs : List Grp} {k : Nat} {g : Grp} (h : gs[k]? = some g) : keepN n gs (k + 1) = keepN n gs k + min n g.2.length := by
  unfold keepN
  rw [take_atG h, List.map_append]
  exact sum_snocN _ _
theorem keepN_cnt (n : Nat) (gs : List Grp) (k : Nat) : keepN n gs k ≤ cntG gs k := by
  unfold keepN cntG
  induction gs.take k with
  | nil => simp
  | cons g l ih =>
    simp only [List.map_cons, List.sum_cons]
    omega
theorem keepN_all {mode : Int} {ns : List ByteArray} {a x : List Rw} {n : Nat} (hx : x.Perm (rowsOf (6, (n : Int)) (splitR mode ns a))) {m : Nat} (hm : (splitR mode ns a).length = m) : keepN n (splitR mode ns a) m = x.length := by
  rw [rows_top] at hx
  rw [hx.length_eq]
  unfold keepN
  rw [List.take_of_length_le (by omega)]
  generalize splitR mode ns a = gs
  induction gs with
  | nil => rfl
  | cons g l ih =>
    simp only [List.map_cons, List.sum_cons, List.flatten_cons, List.length_append, top_len]
    omega
theorem rows_right {a : List Rw} {x : List Rw} (har : rightR a = true) (hx : ∀ r ∈ x, r ∈ a) {r : Rw} (hr : r ∈ x) : rightB r.1 = true ∧ SmL r.1 :=
  have h := (right_fit har).2.1 r (hx r hr)
  ⟨h.1, right_small h.1⟩
theorem top_from {mode : Int} {ns : List ByteArray} {a x : List Rw} {n : Nat} (hx : x.Perm (rowsOf (6, (n : Int)) (splitR mode ns a))) : ∀ r ∈ x, r ∈ a := fun r hr => by
  rw [rows_top] at hx
  obtain ⟨t, ht, hrt⟩ := List.mem_flatten.1 (hx.mem_iff.1 hr)
  obtain ⟨g, hg, rfl⟩ := List.mem_map.1 ht
  exact split_mem hg (top_mem hrt)
theorem agg_topk {n : Nat} (h1 : 1 ≤ n) (h2 : n ≤ 2000) : aggF ⟨#[116, 111, 112, 107]⟩ (n : Int) = some (6, (n : Int)) := by
  unfold aggF
  simp
  omega
end Go.Proofs.YtbdnonphkobkoaaGreat.Grp
