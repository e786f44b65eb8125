import Derived.Test.YtmidpekkomhogaaMg04
import Derived.Test.YtmidpekkomhogaaMg08
import Derived.Deep.LoopGhost
import Derived.Lib.AppendZerosOnto
import Derived.Lib.Overlaps
import Derived.Laws.Externs
import Derived.Laws.CopyRow
import Derived.Deep.AppendLies
import Derived.Deep.RegionLaw
import Derived.Deep.DeepMust
section
/- The store: matchers read, and asked. -/

namespace Go.Proofs.Ytmidpekkomhogaa.Sto
open Go.RowKit

/-- A matcher: its name, its op, its value. -/
abbrev Mat := ByteArray × Int × ByteArray
structure Mat.Ok (m : Mat) : Prop where
  name : m.1.size ≤ 1000000
  value : m.2.2.size ≤ 1000000
/-- What a pattern's text comes to. -/
def patO (s : ByteArray) : Option Pat.Pt := if 40 < (spell s.data.toList).length then none else Pat.readP (spell s.data.toList)
/-- May a matcher be? -/
def matB (m : Mat) : Bool := nameB m.1.data.toList && (m.2.1 == 1 || m.2.1 == 2 || ((m.2.1 == 3 || m.2.1 == 4) && (patO m.2.2).isSome))
/-- Is a value what a matcher says? -/
def saysB (m : Mat) (v : ByteArray) : Bool :=
  if m.2.1 = 1 then v.toList == m.2.2.toList else if m.2.1 = 2 then !(v.toList == m.2.2.toList) else
  match patO m.2.2 with
  | some x => if m.2.1 = 3 then Pat.wholeF (Pat.layF x ⟨[], []⟩) (spell v.data.toList) else !Pat.wholeF (Pat.layF x ⟨[], []⟩) (spell v.data.toList)
  | none => false
/-- A question in memory: the matcher, and its pattern. -/
structure QAt (w : World) (m : Mat) (p : Value) : Prop where
  ok : matB m = true
  none' : (m.2.1 = 1 ∨ m.2.1 = 2) → p = .pointer none
  pat : (m.2.1 = 3 ∨ m.2.1 = 4) → ∃ bp x, p = .pointer (some ⟨bp, 0, none⟩) ∧ patO m.2.2 = some x ∧ Pat.PatAt w bp m.2.2 (Pat.layF x ⟨[], []⟩) ∧ Pat.PatOk (Pat.layF x ⟨[], []⟩)
theorem QAt.below {w w' : World} {m : Mat} {p : Value} (h : QAt w m p) (hb : Below w.heap.size w w') : QAt w' m p :=
  ⟨h.ok, h.none', fun ho => by
    obtain ⟨bp, x, h1, h2, h3, h4⟩ := h.pat ho
    exact ⟨bp, x, h1, h2, h3.below hb, h4⟩⟩
theorem patO_long {s : ByteArray} (h : 40 < (spell s.data.toList).length) : patO s = none := by unfold patO; rw [if_pos h]
theorem patO_short {s : ByteArray} (h : ¬ 40 < (spell s.data.toList).length) : patO s = Pat.readP (spell s.data.toList) := by unfold patO; rw [if_neg h]
/-- The three ends of Compile. -/
theorem compile_any (s : ByteArray) (w : World) (hs : s.size ≤ 1000000) :
    Calls Try.prog 46 #[.string s] w fun e w' => (∃ p k, e = .returned (.tuple #[.pointer p, .int .i64 k]) ∧ ((patO s = none ∧ k ≠ 0) ∨ (k = 0 ∧ ∃ bp x, p = some ⟨bp, 0, none⟩ ∧ patO s = some x ∧ Pat.PatAt w' bp s (Pat.layF x ⟨[], []⟩) ∧ Pat.PatOk (Pat.layF x ⟨[], []⟩)))) ∧ Below w.heap.size w w' := by
  by_cases h : 40 < (spell s.data.toList).length
  · exact (Pat.compile_long s w hs h).mono fun e w' q => ⟨⟨_, _, q.1, .inl ⟨patO_long h, by decide⟩⟩, q.2⟩
  · cases hr : Pat.readP (spell s.data.toList) with
    | none => exact (Pat.compile_form s w hs h hr).mono fun e w' q => ⟨⟨_, _, q.1, .inl ⟨(patO_short h).trans hr, by decide⟩⟩, q.2⟩
    | some x =>
      refine (Pat.compile_ok s x w hs h hr).mono fun e w' q => ?_
      obtain ⟨bp, e1, e2, e3⟩ := q
      exact ⟨⟨_, _, e1, .inr ⟨rfl, bp, x, rfl, (patO_short h).trans hr, e2, Pat.readP_ok hr h⟩⟩, e3⟩

/-- What a matcher is read as. -/
def ReadTo (w w' : World) (m : Mat) (e : Ending) : Prop := (∃ a b c p, e = .returned (.tuple #[.agg #[.string a, .int .i64 b, .string c, .pointer p], .bool (matB m)]) ∧ (matB m = true → a = m.1 ∧ b = m.2.1 ∧ c = m.2.2 ∧ QAt w' m (.pointer p))) ∧ Below w.heap.size w w'
/-- The two blocks of readOne. -/
def Qs (k : Nat) (a : ByteArray) (b : Int) (c : ByteArray) (w W : World) : Prop := W.heap[k]? = some (.cells #[.string a, .int .i64 b, .string c] 24 (0, 0)) ∧ W.heap[k + 1]? = some (.cells #[.string ⟨#[]⟩, .int .i64 0, .string ⟨#[]⟩, .pointer none] 80 (0, 0)) ∧ Below k w W
theorem Qs.below {k : Nat} {a : ByteArray} {b : Int} {c : ByteArray} {w W W' : World} (h : Qs k a b c w W) (hb : Below W.heap.size W W') : Qs k a b c w W' := by
  have h1 := (Array.getElem?_eq_some_iff.1 h.1).1
  exact ⟨(hb.block _ h1).trans h.1, (hb.block _ (Array.getElem?_eq_some_iff.1 h.2.1).1).trans h.2.1, h.2.2.trans (hb.mono (by omega))⟩
theorem Qs.reads {k : Nat} {a : ByteArray} {b : Int} {c : ByteArray} {w W : World} (h : Qs k a b c w W) : W.cell? ⟨k, 0, none⟩ = some (.string a) ∧ W.cell? ⟨k, 1, none⟩ = some (.int .i64 b) ∧ W.cell? ⟨k, 2, none⟩ = some (.string c) ∧ W.cell? ⟨k + 1, 0, none⟩ = some (.string ⟨#[]⟩) ∧ W.cell? ⟨k + 1, 1, none⟩ = some (.int .i64 0) ∧ W.cell? ⟨k + 1, 2, none⟩ = some (.string ⟨#[]⟩) ∧ W.cell? ⟨k + 1, 3, none⟩ = some (.pointer none) ∧ W.frozen? ⟨k + 1, 0, none⟩ = false ∧ W.frozen? ⟨k + 1, 1, none⟩ = false ∧ W.frozen? ⟨k + 1, 2, none⟩ = false ∧ W.frozen? ⟨k + 1, 3, none⟩ = false := by
  obtain ⟨h1, h2, _⟩ := h
  refine ⟨?_, ?_, ?_, ?_, ?_, ?_, ?_, ?_, ?_, ?_, ?_⟩ <;> simp [World.cell?, World.frozen?, h1, h2]
theorem Qs.made (a : ByteArray) (b : Int) (c : ByteArray) (w : World) : Qs w.heap.size a b c w ((w.alloc (Obj.cells #[.string a, .int .i64 b, .string c] 24)).alloc (Obj.cells #[.string ⟨#[]⟩, .int .i64 0, .string ⟨#[]⟩, .pointer none] 80)) := by
  refine ⟨?_, ?_, ((Below.refl _ _).alloc (Nat.le_refl _) _).alloc (by simp) _⟩
  · rw [Below.heap_alloc _ _ _ (by rw [World.size_alloc]; omega)]; exact Array.getElem?_push_size
  · have e : (w.alloc (Obj.cells #[.string a, .int .i64 b, .string c] 24)).heap.size = w.heap.size + 1 := World.size_alloc _ _
    rw [← e]; exact Array.getElem?_push_size
theorem set4_below {k : Nat} {w W : World} (h : Below k w W) {p q r s : Value} : Below k w ((((W.setCell ⟨k + 1, 0, none⟩ p).setCell ⟨k + 1, 1, none⟩ q).setCell ⟨k + 1, 2, none⟩ r).setCell ⟨k + 1, 3, none⟩ s) :=
  (((h.setCell (by simp) _).setCell (by simp) _).setCell (by simp) _).setCell (by simp) _
theorem cell4 {w : World} {k : Nat} {a b c d : Value} {t : TypeId} (hk : w.heap[k]? = some (.cells #[a, b, c, d] t (0, 0))) {o : Nat} {u : Value} (h : w.cell? ⟨k, o, none⟩ = some u) : u = a ∨ u = b ∨ u = c ∨ u = d := by
  simp [World.cell?, hk] at h
  match o, h with
  | 0, h => simp at h; exact .inl h.symm
  | 1, h => simp at h; exact .inr (.inl h.symm)
  | 2, h => simp at h; exact .inr (.inr (.inl h.symm))
  | 3, h => simp at h; exact .inr (.inr (.inr h.symm))
  | n + 4, h => simp at h
/-- A tree's blocks are none of a question's. -/
theorem tree_far {w : World} {P : Nat → Prop} {v : Value} {x : Pat.Pt} {k : Nat} {a c : ByteArray} {b : Int} {d : Option Addr} {t : TypeId} (hk : w.heap[k]? = some (.cells #[.string a, .int .i64 b, .string c, .pointer d] t (0, 0))) (h : Pat.Tree w P v x) : Pat.Tree w (fun q => P q ∧ q ≠ k) v x := by
  have sv : ∀ (o : Option Addr) (vs : List Value), Pat.SeesV w P o vs → (∀ (j : Nat) (v : Value), vs[j]? = some v → ∃ t u, v = .iface t u) → Pat.SeesV w (fun q => P q ∧ q ≠ k) o vs := by
    intro o vs h hi
    rcases h with h | ⟨b', off, e, hp, hl, hs⟩
    · exact .inl h
    · cases vs with
      | nil => exact .inl rfl
      | cons v vs =>
        refine .inr ⟨b', off, e, ⟨hp, ?_⟩, hl, hs⟩
        rintro rfl
        obtain ⟨t', u', rfl⟩ := hi 0 v rfl
        rcases cell4 hk (hs 0 _ rfl) with h | h | h | h <;> cases h
  induction h with
  | only r => exact .only r
  | dot => exact .dot
  | cls neg o n cap xs hn hm h =>
    refine .cls neg o n cap xs hn hm ?_
    rcases h with h | ⟨b', off, e, hp, hl, hs⟩
    · exact .inl h
    · cases xs with
      | nil => exact .inl rfl
      | cons x xs =>
        refine .inr ⟨b', off, e, ⟨hp, ?_⟩, hl, hs⟩
        rintro rfl
        rcases cell4 hk (hs 0 _ rfl).1 with h | h | h | h <;> cases h
  | times v x a b _ ih => exact .times v x a b ih
  | choice o n cap vs l hn hl hm h ht ih =>
    refine .choice o n cap vs l hn hl hm (sv o vs h fun j v hv => ?_) ih
    obtain ⟨y, hy⟩ : ∃ y, l[j]? = some y := ⟨_, List.getElem?_eq_getElem (by have := (List.getElem?_eq_some_iff.1 hv).1; omega)⟩
    exact (ht j v y hv hy).iface
  | chain o n cap vs l hn hl hm h ht ih =>
    refine .chain o n cap vs l hn hl hm (sv o vs h fun j v hv => ?_) ih
    obtain ⟨y, hy⟩ : ∃ y, l[j]? = some y := ⟨_, List.getElem?_eq_getElem (by have := (List.getElem?_eq_some_iff.1 hv).1; omega)⟩
    exact (ht j v y hv hy).iface
/-- A pattern is what it was where a question's block alone is written. -/
theorem PatAt.other {w w' : World} {bp k : Nat} {s : ByteArray} {x : Pat.Eg × Pat.Gr} {a c : ByteArray} {b : Int} {d : Option Addr} (hk : w.heap[k]? = some (.cells #[.string a, .int .i64 b, .string c, .pointer d] 80 (0, 0))) (h : Pat.PatAt w bp s x) (hs : ∀ b, b ≠ k → w'.heap[b]? = w.heap[b]?) : Pat.PatAt w' bp s x := by
  obtain ⟨va, vt, vs, hp, hr⟩ := h
  have own : ∀ {B e size n : Nat} {v : Value} {xs : List Value}, w.ownsRow B e size v n xs → e ≠ 80 → w'.ownsRow B e size v n xs := fun h he => own_same h fun g hg => hs g (typ_ne (own_typ h hg) ⟨_, _, hk⟩ he)
  refine ⟨va, vt, vs, (hs bp ?_).trans hp, own hr.atoms (by decide), own hr.links (by decide), fun j u y hu hy => (tree_far hk (hr.kids j u y hu hy)).keep fun q hq _ => ⟨hs q hq.2, hq.1⟩⟩
  rintro rfl
  unfold Pat.Pat at hp
  rw [hk] at hp
  cases hp
theorem set4_heap (w : World) (k : Nat) (p q r s : Value) : ∀ b, b ≠ k → ((((w.setCell ⟨k, 0, none⟩ p).setCell ⟨k, 1, none⟩ q).setCell ⟨k, 2, none⟩ r).setCell ⟨k, 3, none⟩ s).heap[b]? = w.heap[b]? := fun b hb => by
  rw [Below.heap_setCell _ _ _ _ hb, Below.heap_setCell _ _ _ _ hb, Below.heap_setCell _ _ _ _ hb, Below.heap_setCell _ _ _ _ hb]
set_option maxHeartbeats 4000000 in
set_option maxRecDepth 100000 in
theorem readOne_any (m : Mat) (w : World) (hm : m.Ok) :
    Calls Try.prog 32 #[.agg #[.string m.1, .int .i64 m.2.1, .string m.2.2]] w fun e w' => ReadTo w w' m e := by
  obtain ⟨nm, op, vl⟩ := m
  have hok := hm.value
  dsimp only at hok ⊢
  have HNm := Lib.hid (fun W => name_any nm W)
  have HCo := Lib.hid (fun W => compile_any vl W hok)
  unfold ReadTo
  clear hm hok
  cases hn : nameB nm.data.toList with
  | false =>
    have HM := Lib.hid (show matB (nm, op, vl) = false by unfold matB; rw [hn]; rfl)
    rw [hn] at HNm
    clear hn HCo
    rw [HM.out]
    go_enter Try.func32, Try.ntmps32
    go_wp2_with fail
    refine (HNm.out _).mono ?_
    rintro e w1 ⟨rfl, b1⟩
    have HQ := Lib.hid ((Qs.made nm op vl w).below b1)
    clear b1
    obtain ⟨r1, r2, r3, r4, r5, r6, r7, r8, r9, r10, r11⟩ := HQ.out.reads
    go_wp2
    exact bodyPost_ret (v := .tuple #[.agg #[.string ⟨#[]⟩, .int .i64 0, .string ⟨#[]⟩, .pointer none], .bool false]) (by simp [results, Try.results32, go_sem, r4, r5, r6, r7]) rfl ⟨⟨_, _, _, _, rfl, fun h => by cases h⟩, set4_below HQ.out.2.2⟩
  | true =>
    rw [hn] at HNm
    by_cases h12 : op = 1 ∨ op = 2
    · have HM := Lib.hid (show matB (nm, op, vl) = true by unfold matB; rw [hn]; rcases h12 with h | h <;> simp [h])
      have HQA := Lib.hid (fun W => show QAt W (nm, op, vl) (.pointer none) from ⟨HM.out, fun _ => rfl, fun h => by rcases h12 with e | e <;> (subst e; rcases h with h | h <;> cases h)⟩)
      clear hn HCo
      rw [HM.out]
      rcases h12 with rfl | rfl
      all_goals
        go_enter Try.func32, Try.ntmps32
        go_wp2_with fail
        refine (HNm.out _).mono ?_
        rintro e w1 ⟨rfl, b1⟩
        have HQ := Lib.hid ((Qs.made nm _ vl w).below b1)
        clear b1
        obtain ⟨r1, r2, r3, r4, r5, r6, r7, r8, r9, r10, r11⟩ := HQ.out.reads
        go_wp2
        exact bodyPost_ret (v := .tuple #[.agg #[.string nm, .int .i64 _, .string vl, .pointer none], .bool true]) (by simp [results, Try.results32, go_sem, r4, r5, r6, r7]) rfl ⟨⟨_, _, _, _, rfl, fun _ => ⟨rfl, rfl, rfl, HQA.out _⟩⟩, set4_below HQ.out.2.2⟩
    · by_cases h34 : op = 3 ∨ op = 4
      · have HM := Lib.hid (show matB (nm, op, vl) = (patO vl).isSome by
          unfold matB; rw [hn]; rcases h34 with h | h <;> simp [h])
        rw [HM.out]
        have e1 : (op == 1) = false := by simp; omega
        have e2 : (op == 2) = false := by simp; omega
        have H12 := Lib.hid h12
        by_cases e3 : (op == 3) = true
        case' neg =>
          have e3 : (op == 3) = false := by simpa using e3
          have e4 : (op == 4) = true := by simp at e3 ⊢; omega
        all_goals
          clear hn h12 h34
          go_enter Try.func32, Try.ntmps32
          go_wp2_with fail
          refine (HNm.out _).mono ?_
          rintro e w1 ⟨rfl, b1⟩
          have HQ1 := Lib.hid ((Qs.made nm op vl w).below b1)
          clear b1
          obtain ⟨r1, r2, r3, r4, r5, r6, r7, r8, r9, r10, r11⟩ := HQ1.out.reads
          go_wp2_with fail
          refine (HCo.out _).mono ?_
          rintro e w2 ⟨⟨p, k, rfl, hpk⟩, b2⟩
          have HQ := Lib.hid (HQ1.out.below b2)
          have HPK := Lib.hid hpk
          clear b2 hpk r1 r2 r3 r4 r5 r6 r7 r8 r9 r10 r11
          obtain ⟨r1, r2, r3, r4, r5, r6, r7, r8, r9, r10, r11⟩ := HQ.out.reads
          by_cases hk0 : k = 0
          · subst hk0
            have h3 : (patO vl).isSome = true := by
              rcases HPK.out with h | ⟨_, _, x, _, h, _⟩
              · exact absurd rfl h.2
              · rw [h]; rfl
            have H3 := Lib.hid h3
            clear h3
            go_wp2
            refine bodyPost_ret (v := .tuple #[.agg #[.string nm, .int .i64 op, .string vl, .pointer p], .bool true]) (by simp [results, Try.results32, go_sem, r4, r5, r6, r7]) rfl ⟨⟨_, _, _, _, by rw [H3.out], fun _ => ⟨rfl, rfl, rfl, HM.out.trans H3.out, fun h => absurd h H12.out, fun _ => ?_⟩⟩, set4_below HQ.out.2.2⟩
            rcases HPK.out with h | ⟨_, bp, x, e1, e2, e3, e4⟩
            · exact absurd rfl h.2
            · exact ⟨bp, x, by rw [e1], e2, PatAt.other HQ.out.2.1 e3 (set4_heap _ _ _ _ _ _), e4⟩
          · have h3 : (patO vl).isSome = false := by
              rcases HPK.out with h | h
              · rw [h.1]; rfl
              · exact absurd h.1 hk0
            have t1 : (k == 0) = false := by simp [hk0]
            have H3 := Lib.hid h3
            clear h3
            go_wp2
            exact bodyPost_ret (v := .tuple #[.agg #[.string nm, .int .i64 op, .string vl, .pointer p], .bool false]) (by simp [results, Try.results32, go_sem, r4, r5, r6, r7]) rfl ⟨⟨_, _, _, _, by rw [H3.out], fun h => by rw [H3.out] at h; cases h⟩, set4_below HQ.out.2.2⟩
      · have HM := Lib.hid (show matB (nm, op, vl) = false by
          unfold matB; rw [hn]
          have e1 : (op == 1) = false := by simp; omega
          have e2 : (op == 2) = false := by simp; omega
          have e3 : (op == 3) = false := by simp; omega
          have e4 : (op == 4) = false := by simp; omega
          simp only [e1, e2, e3, e4]; rfl)
        have e1 : (op == 1) = false := by simp; omega
        have e2 : (op == 2) = false := by simp; omega
        have e3 : (op == 3) = false := by simp; omega
        have e4 : (op == 4) = false := by simp; omega
        clear hn HCo h12 h34
        rw [HM.out]
        go_enter Try.func32, Try.ntmps32
        go_wp2_with fail
        refine (HNm.out _).mono ?_
        rintro e w1 ⟨rfl, b1⟩
        have HQ := Lib.hid ((Qs.made nm op vl w).below b1)
        clear b1
        obtain ⟨r1, r2, r3, r4, r5, r6, r7, r8, r9, r10, r11⟩ := HQ.out.reads
        go_wp2
        exact bodyPost_ret (v := .tuple #[.agg #[.string ⟨#[]⟩, .int .i64 0, .string ⟨#[]⟩, .pointer none], .bool false]) (by simp [results, Try.results32, go_sem, r4, r5, r6, r7]) rfl ⟨⟨_, _, _, _, rfl, fun h => by cases h⟩, set4_below HQ.out.2.2⟩
end Go.Proofs.Ytmidpekkomhogaa.Sto
end

section
/- The store: the place of labels among its series. -/

namespace Go.Proofs.Ytmidpekkomhogaa.Sto
open Go.RowKit

/-- Is there a series of these labels? -/
def hasB (l : Labs) (xs : List Srs) : Bool := match xs[rank (K := Labs) l xs]? with | some x => decide (cmpL x.1 l = 0) | none => false
theorem lt_iff {a b : Labs} : Keys.lt a b = true ↔ cmpL a b < 0 := by show decide _ = true ↔ _; simp
theorem lt_no {a b : Labs} : Keys.lt a b = false ↔ ¬ cmpL a b < 0 := by show decide _ = false ↔ _; simp

set_option maxHeartbeats 4000000 in
set_option maxRecDepth 100000 in
theorem search_any (o o2 : Option Addr) (n c m c2 : Nat) (xs : List Srs) (l : Labs) (w : World) (hn : xs.length = n) (hm : l.length = m) (hf : Fine xs) (hl : m ≤ 1000000) (hS : Ser.SeesO w o xs) (hS2 : SeesO w o2 l) :
    Calls Try.prog 18 #[.slice o n c, .slice o2 m c2, .func (.func 19) #[] #[]] w fun e w' => e = .returned (.tuple #[.int .i64 (rank (K := Labs) l xs : Nat), .bool (hasB l xs)]) ∧ Below w.heap.size w w' := by
  have hnb : n ≤ 40 := by rw [← hn]; exact hf.few
  obtain ⟨r, hr⟩ : ∃ r, rank (K := Labs) l xs = r := ⟨_, rfl⟩
  obtain ⟨B, hB⟩ : ∃ B, hasB l xs = B := ⟨_, rfl⟩
  have hrn : r ≤ n := by rw [← hr, ← hn]; exact rank_le _ _
  have key : ∀ (j : Nat) (x : Srs), xs[j]? = some x → (j < r → cmpL x.1 l < 0) ∧ (r ≤ j → ¬ cmpL x.1 l < 0) := fun j x hx =>
    ⟨fun h => lt_iff.1 (rank_lt (K := Labs) hx (by rw [hr]; exact h)), fun h => lt_no.1 (rank_ge (K := Labs) hf.rises hx (by rw [hr]; exact h))⟩
  have hhas : B = match xs[r]? with | some x => decide (cmpL x.1 l = 0) | none => false := by rw [← hB, ← hr]; rfl
  have HK := Lib.hid key
  have HH := Lib.hid hhas
  have HN := Lib.hid hn
  have HS := Lib.hid hS
  have HS2 := Lib.hid hS2
  have HX := Lib.hid (show ∀ x ∈ xs, x.1.length ≤ 1000 from fun x hx => (hf.each x hx).1.len)
  rw [hr, hB]
  have HC := Lib.hid (fun oL (n1 cL : Nat) (v : Value) (a : Labs) W (h1 : a.length = n1) (h2 : a.length ≤ 1000) (hs : SeesO W oL a) (hb : Below w.heap.size w W) => compare_one oL o2 n1 cL m c2 v a l W h1 hm (by unfold maxLen; omega) (by unfold maxLen; omega) hs (hS2.below hb))
  clear key hhas hn hm hS hS2 hr hB hf hl
  go_enter Try.func18, Try.ntmps18
  go_wp2
  go_loopg [9, 10] n (fun kx s9 s10 wr => ∃ lo hi : Nat, s9 = .int .i64 lo ∧ s10 = .int .i64 hi ∧ lo ≤ r ∧ r ≤ hi ∧ hi ≤ n ∧ hi - lo ≤ kx ∧ Hid (Below w.heap.size w wr))
  case atStart => exact ⟨0, n, rfl, rfl, Nat.zero_le _, hrn, Nat.le_refl _, by omega, Below.refl _ _⟩
  case round =>
    obtain ⟨lo, hi, rfl, rfl, h1, h2, h3, hg, HB⟩ := hrel
    by_cases hlt : lo < hi
    · obtain ⟨x, hx⟩ := Ser.get_lt HN.out (show (lo + hi) / 2 < n by omega)
      obtain ⟨b, off, rfl, hSS⟩ := (HS.out.below HB.out).at hx
      obtain ⟨u, v, c0, c1, oL, cL, oP, cP, rfl, rfl, hL, hP, lL, lP⟩ := hSS.at0 _ x hx
      have hk := HK.out _ x hx
      have hc := HC.out oL x.1.length cL (.slice oP x.2.length cP) x.1
      have hxl := HX.out x (List.mem_of_getElem? hx)
      have HL := Lib.hid hL
      clear hSS hx hP lL lP hL
      generalize x.1.length = nL at c0 hc hxl
      generalize x.2.length = nP at c1 hc
      have HC1 := Lib.hid (hc wr (by trivial) hxl HL.out HB.out)
      clear hc
      by_cases hcz : cmpL x.1 l < 0
      · have hlr : (lo + hi) / 2 < r := by
          by_cases h : (lo + hi) / 2 < r
          · exact h
          · have := hk.2 (by omega); omega
        clear hk
        go_wp2_with fail
        refine HC1.out.mono ?_
        rintro e w1 ⟨rfl, b1⟩
        have HB1 := Lib.hid (HB.out.trans (b1.mono HB.out.size))
        clear b1
        go_wp2
        go_roundg (hi - ((lo + hi) / 2 + 1))
        case measure => omega
        case rel => exact ⟨(lo + hi) / 2 + 1, hi, by go_num, rfl, by omega, h2, h3, Nat.le_refl _, HB1⟩
      · have hlr : r ≤ (lo + hi) / 2 := by
          by_cases h : (lo + hi) / 2 < r
          · exact absurd (hk.1 h) hcz
          · omega
        clear hk
        go_wp2_with fail
        refine HC1.out.mono ?_
        rintro e w1 ⟨rfl, b1⟩
        have HB1 := Lib.hid (HB.out.trans (b1.mono HB.out.size))
        clear b1
        go_wp2
        go_roundg ((lo + hi) / 2 - lo)
        case measure => omega
        case rel => exact ⟨lo, (lo + hi) / 2, rfl, by go_num, h1, hlr, by omega, Nat.le_refl _, HB1⟩
    · obtain rfl : lo = r := by omega
      obtain rfl : hi = lo := by omega
      by_cases hrl : hi < n
      · obtain ⟨x, hx⟩ := Ser.get_lt HN.out hrl
        obtain ⟨b, off, rfl, hSS⟩ := (HS.out.below HB.out).at hx
        obtain ⟨u, v, c0, c1, oL, cL, oP, cP, rfl, rfl, hL, hP, lL, lP⟩ := hSS.at0 _ x hx
        have hc := HC.out oL x.1.length cL (.slice oP x.2.length cP) x.1
        have hxl := HX.out x (List.mem_of_getElem? hx)
        have HBB := Lib.hid (show decide (cmpL x.1 l = 0) = B by have := HH.out; rw [hx] at this; exact this.symm)
        have HL := Lib.hid hL
        clear hSS hx hP lL lP hL
        generalize x.1.length = nL at c0 hc hxl
        generalize x.2.length = nP at c1 hc
        have HC1 := Lib.hid (hc wr (by trivial) hxl HL.out HB.out)
        clear hc
        go_wp2_with fail
        refine HC1.out.mono ?_
        rintro e w1 ⟨rfl, b1⟩
        have HB1 := Lib.hid (HB.out.trans (b1.mono HB.out.size))
        clear b1
        by_cases hz : cmpL x.1 l = 0
        · have HZ := Lib.hid (show true = B by rw [← HBB.out]; simp [hz])
          have t1 : (cmpL x.1 l == 0) = true := by simp [hz]
          go_wp2
          go_ret2
          have hb := HZ.out
          subst hb
          exact ⟨rfl, HB1.out⟩
        · have HZ := Lib.hid (show false = B by rw [← HBB.out]; simp [hz])
          have t1 : (cmpL x.1 l == 0) = false := by simp [hz]
          go_wp2
          go_ret2
          have hb := HZ.out
          subst hb
          exact ⟨rfl, HB1.out⟩
      · have HZ := Lib.hid (show false = B by
          have := HH.out
          rw [List.getElem?_eq_none (by rw [HN.out]; omega)] at this
          exact this.symm)
        go_wp2
        go_ret2
        have hb := HZ.out
        subst hb
        exact ⟨rfl, HB.out⟩
end Go.Proofs.Ytmidpekkomhogaa.Sto
end

section
/- The store: one more series put into its row. -/

namespace Go.Proofs.Ytmidpekkomhogaa.Sto
open Go.RowKit

section
variable {P : Program}
/-- copy onto a whole row, whatever an element's size. -/
theorem run_copy_k (w : World) (dT sT ty elem : TypeId) (K : Nat) (g o dLen dCap : Nat) (a : Addr) (sLen sCap : Nat) (cur : Array Value) (t : TypeId) (cs : List Value)
    (hu : P.underlying dT = some (.slice elem)) (hs : (P.info? elem).map (·.size) = some K)
    (hg : w.heap[g]? = some (.cells cur t (0, 0))) (m : Nat) (hm : Nat.min sLen dLen = m) (hn : cs.length = m * K)
    (hsrc : ∀ j v, cs[j]? = some v → w.cell? (a.add j) = some v) (hfit : o + cs.length ≤ cur.size) (h1 : ∀ v ∈ cs, v.oneCell' = true) :
    (Builtin.copy_ #[dT, sT] ty #[.slice (some ⟨g, o, none⟩) dLen dCap, .slice (some a) sLen sCap]).run P w =
      .ok (goInt m) (w.setRow g (cur.toList.take o ++ cs ++ cur.toList.drop (o + cs.length)).toArray) := by
  have hl := run_loadCells_list (P := P) w a cs hsrc
  have hst := run_storeCells_at P g o t cs 0 cur w hg (by simpa using hfit) h1
  cases hq : P.info? elem with
  | none => simp [hq] at hs
  | some i =>
    have hi : i.size = K := by simpa [hq] using hs
    rw [hn] at hl
    simp [Builtin.copy_, run_underlying hu, Builtin.lenOf, Builtin.firstCells, sizeOf, typeInfo, hq, hi, hm, hl, hst]
theorem wpList_copy_k (w : World) {ops : Array Oper} {rest : List Oper} {o : Oper} {a : Act} {Q : Exit → Act → World → Prop} (hgd : o.guard = none) (d s : Operand) (t t' : TypeId)
    (ho : o.op = .call { callee := .builtin .copy, args := #[d, s], argTypes := #[t, t'] }) (v u : Value) (hd : a.eval d = v) (hs : a.eval s = u) {v' : Value} {w' : World}
    (hr : (Builtin.copy_ #[t, t'] o.type #[v, u]).run P w = .ok v' w') (h : wpList P ops Q rest (a.put o.dst v') w') : wpList P ops Q (o :: rest) a w :=
  wpList_plain hgd fun _ hK => by
    unfold Oper.wp execOp
    simp only [ho, resolve, invoke, builtin, Sem.run_bind, Sem.run_pure, Result.andThen_ok, List.map_toArray, List.map_cons, List.map_nil, hd, hs, hr]
    exact hK _ _ h
theorem step_copy_k {ops : Array Oper} {o : Oper} {a : Act} {w : World} {K : Act → World → Prop} {Q : Exit → Act → World → Prop} {E : Prop}
    (hg : o.guard = none) (d x : Operand) (dT sT : TypeId) (hop : o.op = Op.call { callee := Callee.builtin Builtin.copy, args := #[d, x], argTypes := #[dT, sT] })
    (v u : Value) (hd : a.eval d = v) (hx : a.eval x = u) {v' : Value} {w' : World} (hr : (Builtin.copy_ #[dT, sT] o.type #[v, u]).run P w = .ok v' w') (hK : K (a.put o.dst v') w') :
    if Region.wanted o (yielded ops a.tmps) = true then Oper.wp P o a w K Q else E := by
  have hw : Region.wanted o (yielded ops a.tmps) = true := by simp [Region.wanted, hg]
  rw [if_pos hw]
  unfold Oper.wp
  simp [execOp, hop, resolve, invoke, builtin, hd, hx, hr, Result.andThen]
  exact hK
end
/-- In place: what is behind the place goes on by one; then the new one is laid. -/
theorem shift_row (A D R N : List Value) (hN : N.length = 2) (hR : 2 ≤ R.length) : ∃ T, ((A ++ D ++ R).take (A.length + 2) ++ D ++ (A ++ D ++ R).drop (A.length + 2 + D.length)).take A.length ++ N ++ ((A ++ D ++ R).take (A.length + 2) ++ D ++ (A ++ D ++ R).drop (A.length + 2 + D.length)).drop (A.length + N.length) = A ++ N ++ D ++ T := by
  refine ⟨(A ++ D ++ R).drop (A.length + 2 + D.length), ?_⟩
  have h1 : (A ++ D ++ R).take (A.length + 2) = A ++ (D ++ R).take 2 := by
    rw [List.append_assoc, List.take_append, List.take_of_length_le (by omega), show A.length + 2 - A.length = 2 by omega]
  have h2 : ((D ++ R).take 2).length = 2 := by rw [List.length_take, List.length_append]; omega
  rw [h1]
  generalize (D ++ R).take 2 = X at h2 ⊢
  generalize (A ++ D ++ R).drop (A.length + 2 + D.length) = E
  have e1 : (A ++ X ++ D ++ E).take A.length = A := by rw [List.append_assoc, List.append_assoc, List.take_left']; rfl
  have e2 : (A ++ X ++ D ++ E).drop (A.length + N.length) = D ++ E := by
    rw [hN, List.append_assoc (A ++ X), List.drop_left' (by rw [List.length_append, h2])]
  rw [e1, e2]
  simp
/-- In a new row. -/
theorem fresh_row (A D Z N : List Value) (hN : N.length = 2) (_hZ : 2 + D.length ≤ Z.length) : ∃ T, ((A ++ Z).take A.length ++ N ++ (A ++ Z).drop (A.length + N.length)).take (A.length + 2) ++ D ++ ((A ++ Z).take A.length ++ N ++ (A ++ Z).drop (A.length + N.length)).drop (A.length + 2 + D.length) = A ++ N ++ D ++ T := by
  refine ⟨((A ++ Z).take A.length ++ N ++ (A ++ Z).drop (A.length + N.length)).drop (A.length + 2 + D.length), ?_⟩
  have e1 : ((A ++ Z).take A.length ++ N ++ (A ++ Z).drop (A.length + N.length)).take (A.length + 2) = A ++ N := by
    rw [List.take_left' rfl, List.take_left' (by rw [List.length_append, hN])]
  rw [e1]

/-- What Insert comes to: a row of its own, the old one or a new one. -/
def InsTo (B n : Nat) (w w' : World) (v : Value) (L : List Value) (e : Ending) : Prop := (∃ g cap, e = .returned (.slice (some ⟨g, 0, none⟩) (n + 1) cap) ∧ w'.ownsRow B 52 2 (.slice (some ⟨g, 0, none⟩) (n + 1) cap) (n + 1) L ∧ (v.ownBlock = some g ∨ g = w.heap.size)) ∧ w.grownBy w' v.ownBlock
theorem two_cells {w : World} {vb : Nat} {u1 u2 : Value} {t : TypeId} (h : w.heap[vb]? = some (.cells #[u1, u2] t (0, 0))) : ∀ j u, [u1, u2][j]? = some u → w.cell? ((⟨vb, 0, none⟩ : Addr).add j) = some u := by
  intro j u hj
  match j, hj with
  | 0, hj => simp at hj; subst hj; simp [Addr.add, World.cell?, h]
  | 1, hj => simp at hj; subst hj; simp [Addr.add, World.cell?, h]
  | j + 2, hj => simp at hj

set_option maxHeartbeats 4000000 in
set_option maxRecDepth 100000 in
theorem insert_end (B n vb : Nat) (v u1 u2 : Value) (L : List Value) (w : World) (hB : B ≤ w.heap.size) (hn : n ≤ 1000) (hown : w.ownsRow B 52 2 v n L) (hvb : w.heap[vb]? = some (.cells #[u1, u2] 52 (0, 0))) (h1 : ∀ z ∈ [u1, u2], z.oneCell' = true) :
    Calls Try.prog 31 #[v, .int .i64 n, .slice (some ⟨vb, 0, none⟩) 1 1] w fun e w' => InsTo B n w w' v (L ++ [u1, u2]) e := by
  obtain ⟨i0, hi, hz0, hz1, hz2⟩ := info_parts Ser.info38
  have hcells := two_cells hvb
  obtain ⟨o, c, rfl, _⟩ := own_shape hown
  have HO := Lib.hid hown
  unfold InsTo
  have hb : (n : Int) ≤ c := by
    rcases hown.2 with ⟨e, h⟩ | ⟨g, cap, cur, e, _, _, h, _⟩
    · cases e; omega
    · cases e; omega
  clear hvb hown
  go_enter Try.func31, Try.ntmps31
  by_cases hcn : c = n
  all_goals
    go_wp2_with (at_builtin; go_must (refine wpList_append_lies _ rfl _ _ 29 rfl B 52 i0 (.agg #[.slice none 0 0, .slice none 0 0]) 2 48 Try.underlying29 hi hz0 hz1 hz2 rfl (by decide) _ n L rfl HO.out ⟨vb, 0, none⟩ 1 1 [u1, u2] rfl rfl hcells h1 (by decide) (by unfold maxLen; omega) (by omega) hB _ rfl ?_); intro g cap w3 hown3 hgrow3 hat3 hlt3)
    go_ret
    exact ⟨⟨g, cap, rfl, hown3, hat3⟩, hgrow3⟩

theorem info_size : (Try.prog.info? 52).map (·.size) = some 2 := by
  obtain ⟨i0, hi, hz0, hz1, hz2⟩ := info_parts Ser.info38
  rw [hi]; simp [hz1]
theorem cur_parts {w : World} {B g n cap : Nat} {L : List Value} (h : w.ownsRow B 52 2 (.slice (some ⟨g, 0, none⟩) n cap) n L) : ∃ cur R, w.heap[g]? = some (.cells cur 52 (0, 0)) ∧ cur.toList = L ++ R ∧ R.length = cap * 2 - n * 2 ∧ n ≤ cap ∧ cap ≤ maxLen ∧ B ≤ g ∧ L.length = n * 2 := by
  rcases h.2 with ⟨e, _⟩ | ⟨g', cap', cur, e, hb, hh, h1, h2, h3, h4⟩
  · cases e
  · cases e
    refine ⟨cur, cur.toList.drop (n * 2), hh, by rw [← h4, List.take_append_drop], by rw [List.length_drop, Array.length_toList, h3], h1, h2, hb, h.1⟩
theorem cell_mid {w : World} {g : Nat} {cur : Array Value} {A D R : List Value} {t : TypeId} (hg : w.heap[g]? = some (.cells cur t (0, 0))) (hc : cur.toList = A ++ D ++ R) {o : Nat} (ho : A.length = o) : ∀ j v, D[j]? = some v → w.cell? ((⟨g, o, none⟩ : Addr).add j) = some v := fun j v hj => by
  have hadd : (⟨g, o, none⟩ : Addr).add j = ⟨g, o + j, none⟩ := by unfold Addr.add; split <;> simp_all
  rw [hadd, cell_of_row w g (o + j) cur t (0, 0) hg, ← Array.getElem?_toList, hc, List.append_assoc, ← ho, List.getElem?_append_right (by omega), show A.length + j - A.length = j by omega, List.getElem?_append_left (List.getElem?_eq_some_iff.1 hj).1]
  exact hj
theorem grown_set (w : World) (g : Nat) (cs : Array Value) : w.grownBy (w.setRow g cs) (some g) :=
  ⟨rfl, rfl, rfl, by simp [World.setRow], fun k _ hk => setRow_other w g k cs fun e => hk (by rw [e])⟩
theorem grown_drew (w : World) (r : Option Nat) : w.grownBy w.drew r := ⟨rfl, rfl, rfl, Nat.le_refl _, fun _ _ _ => rfl⟩
theorem grown_trans {a b c : World} {r : Option Nat} (h : a.grownBy b r) (k : b.grownBy c r) : a.grownBy c r :=
  ⟨k.os.trans h.os, k.tape.trans h.tape, k.output.trans h.output, Nat.le_trans h.size k.size, fun i hi hr => (k.block i (Nat.lt_of_lt_of_le hi h.size) hr).trans (h.block i hi hr)⟩
set_option maxHeartbeats 4000000 in
set_option maxRecDepth 100000 in
theorem insert_shift (B g cap n i vb : Nat) (u1 u2 : Value) (A D : List Value) (w : World) (hi : i < n) (hroom : n + 1 ≤ cap) (hn : n ≤ 1000) (hown : w.ownsRow B 52 2 (.slice (some ⟨g, 0, none⟩) n cap) n (A ++ D)) (hA : A.length = i * 2)
    (hvb : w.heap[vb]? = some (.cells #[u1, u2] 52 (0, 0))) (hne : vb ≠ g) (h1 : ∀ z ∈ [u1, u2], z.oneCell' = true) (hD1 : ∀ z ∈ D, z.oneCell' = true) :
    Calls Try.prog 31 #[.slice (some ⟨g, 0, none⟩) n cap, .int .i64 i, .slice (some ⟨vb, 0, none⟩) 1 1] w fun e w' => InsTo B n w w' (.slice (some ⟨g, 0, none⟩) n cap) (A ++ [u1, u2] ++ D) e := by
  obtain ⟨cur, R, hg, hcur, hR, _, hmax, hBg, hL⟩ := cur_parts hown
  rw [List.length_append] at hL
  have hD : D.length = (n - i) * 2 := by omega
  have hov : ∀ lb cb, (callFunc 43 #[.slice (some ⟨vb, 0, none⟩) 1 1, .slice (some ⟨g, (i + 1) * 2, none⟩) lb cb]).run Try.prog w = .ok (.value (.bool false)) w := fun lb cb => by
    rw [run_callFunc_extern Try.func43 (by kernel_rfl) (by kernel_rfl) (by kernel_rfl) (e := Extern.SlicesOverlaps.overlaps #[29, 29] #[4]) (by kernel_rfl),
      Lib.run_overlaps_apart w 29 4 52 Try.underlying29 2 (fun _ => Try.sizeOf52 _) ⟨vb, 0, none⟩ ⟨g, (i + 1) * 2, none⟩ 1 1 lb cb hne 52 52 2 cur.size (by simp [World.shape?, hvb]) (by simp [World.shape?, hg]) (by have := congrArg List.length hcur; simp at this; omega) (by simp [World.frozen?, hvb]) (by simp [World.frozen?, hvb])]
    rfl
  have hb1 : (i : Int) ≤ (n : Int) + 1 := by omega
  unfold maxLen at hmax
  have hb2 : ¬ (cap = i + 1) := by omega
  have hb4 : ¬ (cap = i) := by omega
  have hw1 : IntKind.i64.wrap ((i : Int) + 1) = (i : Int) + 1 := by rw [IntKind.wrap_i64]; omega
  have hb5 : (0 : Int) ≤ (i : Int) + 1 := by omega
  have htn : ((i : Int) + 1).toNat = i + 1 := by omega
  have hb6 : (i : Int) + 1 ≤ (n : Int) + 1 := by omega
  have hfit : (i + 1) * 2 + D.length ≤ cur.size := by have := congrArg List.length hcur; simp at this; omega
  have hcp1 : ∀ ty dc sc, (Builtin.copy_ #[29, 29] ty #[.slice (some ⟨g, (i + 1) * 2, none⟩) (n - i) dc, .slice (some ⟨g, i * 2, none⟩) (n + 1 - i) sc]).run Try.prog w.drew = _ := fun ty dc sc =>
    run_copy_k w.drew 29 29 ty 52 2 g ((i + 1) * 2) (n - i) dc ⟨g, i * 2, none⟩ (n + 1 - i) sc cur 52 D Try.underlying29 info_size hg (n - i) (by simp only [Nat.min_def]; split <;> omega) hD (cell_mid hg hcur hA) hfit hD1
  obtain ⟨r1, hr1⟩ : ∃ r1, cur.toList.take ((i + 1) * 2) ++ D ++ cur.toList.drop ((i + 1) * 2 + D.length) = r1 := ⟨_, rfl⟩
  simp only [hr1] at hcp1
  have hlen1 : r1.length = cur.size := by
    rw [← hr1, List.length_append, List.length_append, List.length_take, List.length_drop, Array.length_toList]; omega
  obtain ⟨T, hT⟩ := shift_row A D R [u1, u2] rfl (by omega)
  rw [← hcur, hA, show i * 2 + 2 = (i + 1) * 2 by omega, hr1] at hT
  obtain ⟨r2, hr2⟩ : ∃ r2, A ++ [u1, u2] ++ D ++ T = r2 := ⟨_, rfl⟩
  rw [hr2] at hT
  have hg1 : (w.drew.setRow g r1.toArray).heap[g]? = some (.cells r1.toArray 52 (0, 0)) := setRow_heap w.drew g cur r1.toArray 52 (0, 0) hg
  have hvb1 : (w.drew.setRow g r1.toArray).heap[vb]? = some (.cells #[u1, u2] 52 (0, 0)) := by rw [setRow_other w.drew g vb _ hne]; exact hvb
  have hcp2 : ∀ (W : World), W.heap = (w.drew.setRow g r1.toArray).heap → ∀ ty dc, (Builtin.copy_ #[29, 29] ty #[.slice (some ⟨g, i * 2, none⟩) (n + 1 - i) dc, .slice (some ⟨vb, 0, none⟩) 1 1]).run Try.prog W = .ok (goInt 1) (W.setRow g r2.toArray) := fun W hW ty dc => by
    have h := run_copy_k (P := Try.prog) W 29 29 ty 52 2 g (i * 2) (n + 1 - i) dc ⟨vb, 0, none⟩ 1 1 r1.toArray 52 [u1, u2] Try.underlying29 info_size (by rw [hW]; exact hg1) 1 (by simp only [Nat.min_def]; split <;> omega) rfl (two_cells (by rw [hW]; exact hvb1)) (by simp only [List.size_toArray, List.length_cons, List.length_nil]; omega) h1
    rw [h, List.toList_toArray, hT]; rfl
  have hsize : r2.length = cap * 2 := by
    rw [← hT, List.length_append, List.length_append, List.length_take, List.length_drop, hlen1]
    have := congrArg List.length hcur
    simp at this ⊢
    omega
  have hfin : ∀ (W : World), W.heap = (w.drew.setRow g r1.toArray).heap → W.os = w.os → W.tape = w.tape → W.output = w.output → InsTo B n w (W.setRow g r2.toArray) (.slice (some ⟨g, 0, none⟩) n cap) (A ++ [u1, u2] ++ D) (.returned (.slice (some ⟨g, 0, none⟩) (n + 1) cap)) := fun W hW ho ht hp => by
    refine ⟨⟨g, cap, rfl, ⟨by simp; omega, .inr ⟨g, cap, _, rfl, hBg, setRow_heap W g r1.toArray _ 52 (0, 0) (by rw [hW]; exact hg1), hroom, by unfold maxLen; exact hmax, by rw [List.size_toArray]; exact hsize, ?_⟩⟩, .inl rfl⟩, ?_⟩
    · show r2.take ((n + 1) * 2) = _
      rw [← hr2, List.take_left' (by simp; omega)]
    · refine grown_trans (b := W) ?_ (grown_set W g _)
      exact ⟨ho, ht, hp, by rw [hW]; simp [World.setRow], fun k hk hr => by rw [hW, setRow_other _ _ _ _ (fun e => hr (by rw [e]; rfl))]; rfl⟩
  have HF := Lib.hid hfin
  have hdr : ∀ (a : Nat), (goInt a) = Value.int .i64 a := fun _ => rfl
  clear hown hr1 hr2 hT hg1 hvb1 hsize hfin hlen1 hfit hcur
  go_enter Try.func31, Try.ntmps31
  go_wp2_with (simp only [hov])
  go_region_law (refine step_copy_k rfl _ _ 29 29 rfl _ _ (by simp [Act.eval, Act.put]) (by simp [Act.eval, Act.put]) (hcp1 _ _ _) ?_)
  go_wp2_with (at_builtin; refine wpList_copy_k _ rfl _ _ 29 29 rfl _ _ rfl rfl (hcp2 _ rfl _ _) ?_)
  go_ret
  exact HF.out _ rfl rfl rfl rfl
set_option maxHeartbeats 4000000 in
set_option maxRecDepth 100000 in
theorem insert_grow (B g n i vb : Nat) (u1 u2 : Value) (A D : List Value) (w : World) (hB : B ≤ w.heap.size) (hi : i < n) (hn : n ≤ 1000) (hown : w.ownsRow B 52 2 (.slice (some ⟨g, 0, none⟩) n n) n (A ++ D)) (hA : A.length = i * 2)
    (hvb : w.heap[vb]? = some (.cells #[u1, u2] 52 (0, 0))) (h1 : ∀ z ∈ [u1, u2], z.oneCell' = true) (hD1 : ∀ z ∈ D, z.oneCell' = true) :
    Calls Try.prog 31 #[.slice (some ⟨g, 0, none⟩) n n, .int .i64 i, .slice (some ⟨vb, 0, none⟩) 1 1] w fun e w' => InsTo B n w w' (.slice (some ⟨g, 0, none⟩) n n) (A ++ [u1, u2] ++ D) e := by
  obtain ⟨i0, hi0, hz0, hz1, hz2⟩ := info_parts Ser.info38
  obtain ⟨cur, R, hg, hcur, hR, _, hmax, hBg, hL⟩ := cur_parts hown
  rw [List.length_append] at hL
  have hD : D.length = (n - i) * 2 := by omega
  have hgl := (Array.getElem?_eq_some_iff.1 hg).1
  have hvl := (Array.getElem?_eq_some_iff.1 hvb).1
  have hik : i + (n + 1 - i) = n + 1 := by omega
  have hkk : (n : Int) + 1 - (i : Int) = ((n + 1 - i : Nat) : Int) := by omega
  have hcellA : ∀ j v, A[j]? = some v → w.drew.cell? ((⟨g, 0, none⟩ : Addr).add j) = some v := fun j v hj => by
    have hadd : (⟨g, 0, none⟩ : Addr).add j = ⟨g, j, none⟩ := by unfold Addr.add; split <;> simp_all
    rw [hadd, cell_of_row w.drew g j cur 52 (0, 0) hg, ← Array.getElem?_toList, hcur, List.append_assoc, List.getElem?_append_left (List.getElem?_eq_some_iff.1 hj).1]
    exact hj
  have hold : (Builtin.firstCells i0.size i (.slice (some ⟨g, 0, none⟩) i n)).run Try.prog w.drew = .ok A.toArray w.drew := by
    rw [hz1]; exact run_firstCells_some w.drew 2 i ⟨g, 0, none⟩ i n A hA hcellA
  obtain ⟨G, hG⟩ : ∃ G, grownCap w (n + 1) n 52 = G := ⟨_, rfl⟩
  have hrz : ∀ ty, (Builtin.append_ #[29, 3] ty #[.slice (some ⟨g, 0, none⟩) i n, .int .i64 ((n : Int) + 1 - (i : Int))]).run Try.prog w =
      .ok (.slice (some ⟨w.heap.size, 0, none⟩) (n + 1) G) (w.drew.alloc (.cells (A.toArray ++ Builtin.zeroCells (Value.agg #[.slice none 0 0, .slice none 0 0]).cells (n + 1 - i) ++ Builtin.zeroCells (Value.agg #[.slice none 0 0, .slice none 0 0]).cells (G - (n + 1))) 52)) := fun ty => by
    have h := Lib.run_append_grow_zeros (P := Try.prog) w 29 3 ty 52 i0 _ .i64 .i64 Try.underlying29 Try.underlying3 hi0 hz0 (some ⟨g, 0, none⟩) i n A hold (n + 1 - i) (by omega) (by omega) (by omega) (by omega) (by rw [hz2]; omega) (by rw [hz2, hik]; exact growslice_fits (by omega) (by omega))
    rw [hik, hG] at h
    rw [hkk]
    exact h
  have hGn : n + 1 ≤ G := by rw [← hG]; exact grownCap_ge w _ _ _
  have hG63 : G ≤ maxLen := by rw [← hG]; exact grownCap_le_maxLen w (n + 1) n 52 (by unfold maxLen; omega)
  obtain ⟨Z, hZ⟩ : ∃ Z, (Builtin.zeroCells (Value.agg #[.slice none 0 0, .slice none 0 0]).cells (n + 1 - i) ++ Builtin.zeroCells (Value.agg #[.slice none 0 0, .slice none 0 0]).cells (G - (n + 1))).toList = Z := ⟨_, rfl⟩
  obtain ⟨ROW, hROW⟩ : ∃ ROW : Array Value, A.toArray ++ Builtin.zeroCells (Value.agg #[.slice none 0 0, .slice none 0 0]).cells (n + 1 - i) ++ Builtin.zeroCells (Value.agg #[.slice none 0 0, .slice none 0 0]).cells (G - (n + 1)) = ROW := ⟨_, rfl⟩
  rw [hROW] at hrz
  have hZl : Z.length = (G - i) * 2 := by
    rw [← hZ]
    simp [Builtin.zeroCells, Value.cells]
    omega
  have hRZ : ROW.toList = A ++ Z := by rw [← hROW, ← hZ]; simp
  have hRs : ROW.size = G * 2 := by rw [← Array.length_toList, hRZ, List.length_append, hA, hZl]; omega
  obtain ⟨T, hT⟩ := fresh_row A D Z [u1, u2] rfl (by omega)
  rw [← hRZ, hA, show i * 2 + 2 = (i + 1) * 2 by omega] at hT
  obtain ⟨r1, hr1⟩ : ∃ r1, ROW.toList.take (i * 2) ++ [u1, u2] ++ ROW.toList.drop (i * 2 + [u1, u2].length) = r1 := ⟨_, rfl⟩
  obtain ⟨r2, hr2⟩ : ∃ r2, A ++ [u1, u2] ++ D ++ T = r2 := ⟨_, rfl⟩
  rw [hr1, hr2] at hT
  have hlen1 : r1.length = G * 2 := by
    rw [← hr1, List.length_append, List.length_append, List.length_take, List.length_drop, Array.length_toList, hRs]
    simp
    omega
  have hlen2 : r2.length = G * 2 := by
    rw [← hT, List.length_append, List.length_append, List.length_take, List.length_drop, hlen1]; omega
  obtain ⟨W1, hW1⟩ : ∃ W1, w.drew.alloc (.cells ROW 52) = W1 := ⟨_, rfl⟩
  rw [hW1] at hrz
  have hWn : W1.heap[w.heap.size]? = some (.cells ROW 52 (0, 0)) := by rw [← hW1]; exact Array.getElem?_push_size
  have hWg : W1.heap[g]? = some (.cells cur 52 (0, 0)) := by rw [← hW1, Below.heap_alloc w.drew _ _ hgl]; exact hg
  have hWv : W1.heap[vb]? = some (.cells #[u1, u2] 52 (0, 0)) := by rw [← hW1, Below.heap_alloc w.drew _ _ hvl]; exact hvb
  have hcpA : ∀ (W : World), W.heap = W1.heap → ∀ ty dc, (Builtin.copy_ #[29, 29] ty #[.slice (some ⟨w.heap.size, i * 2, none⟩) (n + 1 - i) dc, .slice (some ⟨vb, 0, none⟩) 1 1]).run Try.prog W = .ok (goInt 1) (W.setRow w.heap.size r1.toArray) := fun W hW ty dc => by
    have h := run_copy_k (P := Try.prog) W 29 29 ty 52 2 w.heap.size (i * 2) (n + 1 - i) dc ⟨vb, 0, none⟩ 1 1 ROW 52 [u1, u2] Try.underlying29 info_size (by rw [hW]; exact hWn) 1 (by simp only [Nat.min_def]; split <;> omega) rfl (two_cells (by rw [hW]; exact hWv)) (by simp only [List.length_cons, List.length_nil]; omega) h1
    rw [h, hr1]; rfl
  have hn1 : (W1.setRow w.heap.size r1.toArray).heap[w.heap.size]? = some (.cells r1.toArray 52 (0, 0)) := setRow_heap W1 _ ROW _ 52 (0, 0) hWn
  have hg1 : (W1.setRow w.heap.size r1.toArray).heap[g]? = some (.cells cur 52 (0, 0)) := by rw [setRow_other W1 _ g _ (by omega)]; exact hWg
  have hcpB : ∀ (W : World), W.heap = (W1.setRow w.heap.size r1.toArray).heap → ∀ ty dc sc, (Builtin.copy_ #[29, 29] ty #[.slice (some ⟨w.heap.size, (i + 1) * 2, none⟩) (n - i) dc, .slice (some ⟨g, i * 2, none⟩) (n - i) sc]).run Try.prog W = .ok (goInt (n - i : Nat)) (W.setRow w.heap.size r2.toArray) := fun W hW ty dc sc => by
    have h := run_copy_k (P := Try.prog) W 29 29 ty 52 2 w.heap.size ((i + 1) * 2) (n - i) dc ⟨g, i * 2, none⟩ (n - i) sc r1.toArray 52 D Try.underlying29 info_size (by rw [hW]; exact hn1) (n - i) (by simp only [Nat.min_def]; split <;> omega) hD (cell_mid (by rw [hW]; exact hg1) hcur hA) (by simp only [List.size_toArray]; omega) hD1
    rw [h, List.toList_toArray, hT]
  have hfin : ∀ (W : World), W.heap = (W1.setRow w.heap.size r1.toArray).heap → W.os = w.os → W.tape = w.tape → W.output = w.output → InsTo B n w (W.setRow w.heap.size r2.toArray) (.slice (some ⟨g, 0, none⟩) n n) (A ++ [u1, u2] ++ D) (.returned (.slice (some ⟨w.heap.size, 0, none⟩) (n + 1) G)) := fun W hW ho ht hp => by
    refine ⟨⟨w.heap.size, G, rfl, ⟨by simp; omega, .inr ⟨w.heap.size, G, _, rfl, hB, setRow_heap W _ r1.toArray _ 52 (0, 0) (by rw [hW]; exact hn1), hGn, hG63, by rw [List.size_toArray]; exact hlen2, ?_⟩⟩, .inr rfl⟩, ?_⟩
    · show r2.take ((n + 1) * 2) = _
      rw [← hr2, List.take_left' (by simp; omega)]
    · have hsz : W.heap.size = w.heap.size + 1 := by rw [hW, ← hW1]; simp [World.setRow]
      refine ⟨ho, ht, hp, by simp [World.setRow, hsz], fun k hk _ => ?_⟩
      rw [setRow_other W _ k _ (by omega), hW, setRow_other W1 _ k _ (by omega), ← hW1]
      exact Below.heap_alloc w.drew _ k hk
  obtain ⟨LL, hLL⟩ : ∃ LL, A ++ [u1, u2] ++ D = LL := ⟨_, rfl⟩
  rw [hLL] at hfin ⊢
  have hB2 := hcpB (W1.setRow w.heap.size r1.toArray).drew rfl
  have HF := Lib.hid hfin
  have hWo : W1.os = w.os ∧ W1.tape = w.tape ∧ W1.output = w.output := by rw [← hW1]; exact ⟨rfl, rfl, rfl⟩
  have HW := Lib.hid hWo
  unfold maxLen at hG63
  have hb1 : (i : Int) ≤ (n : Int) + 1 := by omega
  have hb2 : ¬ (G = i + 1) := by omega
  have hb9 : i ≤ n := by omega
  have hb4 : ¬ (n = i) := by omega
  have hb7 : ¬ (G = i) := by omega
  have hb8 : ¬ ((n : Int) + 1 ≤ (n : Int)) := by omega
  have hw1 : IntKind.i64.wrap ((i : Int) + 1) = (i : Int) + 1 := by rw [IntKind.wrap_i64]; omega
  have hb5 : (0 : Int) ≤ (i : Int) + 1 := by omega
  have htn : ((i : Int) + 1).toNat = i + 1 := by omega
  have hb6 : (i : Int) + 1 ≤ (n : Int) + 1 := by omega
  clear hown hr1 hr2 hT hn1 hg1 hWn hWg hWv hfin hlen1 hlen2 hRs hRZ hROW hZ hZl hold hcellA hW1 hG hcur hik hWo hkk hLL
  go_enter Try.func31, Try.ntmps31
  go_wp2_with (first
    | (at_builtin; refine Lib.wpList_append_run _ rfl _ _ _ _ rfl _ _ rfl rfl _ _ (hrz _) ?_)
    | (at_builtin; refine wpList_copy_k _ rfl _ _ 29 29 rfl _ _ rfl rfl (hcpA _ rfl _ _) ?_))
  go_region_law (refine step_copy_k rfl _ _ 29 29 rfl _ _ (by simp [Act.eval, Act.put]) (by simp [Act.eval, Act.put]) (hB2 _ _ _) ?_)
  go_wp2
  go_ret
  exact HF.out (W1.setRow w.heap.size r1.toArray).drew rfl HW.out.1 HW.out.2.1 HW.out.2.2
theorem flatU_app (a b : List (Value × Value)) : Ser.flatU (a ++ b) = Ser.flatU a ++ Ser.flatU b := by simp [Ser.flatU]
/-- One more series put at its place. -/
theorem insert_any (B n i vb : Nat) (v u1 u2 : Value) (us : List (Value × Value)) (w : World) (hB : B ≤ w.heap.size) (hu : us.length = n) (hi : i ≤ n) (hn : n ≤ 1000) (hown : w.ownsRow B 52 2 v n (Ser.flatU us))
    (hvb : w.heap[vb]? = some (.cells #[u1, u2] 52 (0, 0))) (hne : ∀ g, v.ownBlock = some g → vb ≠ g) (h1 : ∀ z ∈ [u1, u2], z.oneCell' = true) (hD1 : ∀ z ∈ Ser.flatU us, z.oneCell' = true) :
    Calls Try.prog 31 #[v, .int .i64 i, .slice (some ⟨vb, 0, none⟩) 1 1] w fun e w' => InsTo B n w w' v (Ser.flatU (us.take i ++ (u1, u2) :: us.drop i)) e := by
  have e1 : Ser.flatU us = Ser.flatU (us.take i) ++ Ser.flatU (us.drop i) := by rw [← flatU_app, List.take_append_drop]
  have e2 : Ser.flatU (us.take i ++ (u1, u2) :: us.drop i) = Ser.flatU (us.take i) ++ [u1, u2] ++ Ser.flatU (us.drop i) := by
    rw [flatU_app, List.append_assoc]; rfl
  have hA : (Ser.flatU (us.take i)).length = i * 2 := by rw [Ser.flatU_len, List.length_take]; congr 1; omega
  rw [e2]
  by_cases hin : i = n
  · subst hin
    have h0 : us.drop i = [] := List.drop_eq_nil_of_le (by omega)
    have h3 : us.take i = us := List.take_of_length_le (by omega)
    rw [h0, h3]
    have := insert_end B i vb v u1 u2 (Ser.flatU us) w hB hn hown hvb h1
    simpa [Ser.flatU] using this
  · rw [e1] at hown hD1
    rcases hown.2 with ⟨rfl, h⟩ | ⟨g, cap, cur, rfl, _, _, hcap, _⟩
    · omega
    · have hD := fun z hz => hD1 z (List.mem_append_right _ hz)
      by_cases hroom : n + 1 ≤ cap
      · exact insert_shift B g cap n i vb u1 u2 _ _ w (by omega) hroom hn hown hA hvb (hne g rfl) h1 hD
      · obtain rfl : cap = n := by omega
        exact insert_grow B g cap i vb u1 u2 _ _ w hB (by omega) hn hown hA hvb h1 hD
end Go.Proofs.Ytmidpekkomhogaa.Sto
end

section
/- The store: a point put in. -/

namespace Go.Proofs.Ytmidpekkomhogaa.Sto
open Go.RowKit

theorem setU_at (us : List (Value × Value)) (j : Nat) (q : Value × Value) (v' : Value) (hq : us[j]? = some q) : (Ser.flatU us).set (j * 2 + 1) v' = Ser.flatU (us.set j (q.1, v')) := by
  induction us generalizing j with
  | nil => simp at hq
  | cons a us ih =>
    cases j with
    | zero => simp at hq; subst hq; simp [Ser.flatU]
    | succ j =>
      have := ih j (by simpa using hq)
      rw [show (j + 1) * 2 + 1 = j * 2 + 1 + 1 + 1 by omega]
      simp [Ser.flatU] at this ⊢
      exact this
/-- A row with one of its cells written. -/
theorem own_put {w : World} {B e size n i : Nat} {v u : Value} {xs : List Value} {g : Nat} (h : w.ownsRow B e size v n xs) (hg : v.ownBlock = some g) (_hi : i < n * size) : (w.setCell ⟨g, i, none⟩ u).ownsRow B e size v n (xs.set i u) := by
  rcases h.2 with ⟨rfl, _⟩ | ⟨g', cap, cur, rfl, hb, hh, h1, h2, h3, h4⟩
  · cases hg
  · have : g' = g := by simpa [Value.ownBlock] using hg
    subst this
    refine ⟨by rw [List.length_set]; exact h.1, .inr ⟨g', cap, cur.setIfInBounds i u, rfl, hb, heap_setCell_same w g' i cur e u hh, h1, h2, by simpa using h3, ?_⟩⟩
    rw [Array.toList_setIfInBounds, List.take_set, h4]
theorem lab_kept {F G : Nat → Prop} {w w' : World} {u : Value} {l : Labs} (h : ∃ oL cL, u = .slice oL l.length cL ∧ SeesO w oL l ∧ Ser.Typ w oL 49 ∧ ∀ b off, oL = some ⟨b, off, none⟩ → F b) (hs : w.heap.size ≤ w'.heap.size)
    (hk : ∀ (k : Nat) cs m, w.heap[k]? = some (Obj.cells cs 49 m) → w'.heap[k]? = w.heap[k]?) (hG : ∀ k, F k → G k) : ∃ oL cL, u = .slice oL l.length cL ∧ SeesO w' oL l ∧ Ser.Typ w' oL 49 ∧ ∀ b off, oL = some ⟨b, off, none⟩ → G b := by
  obtain ⟨oL, cL, h1, h2, h3, h4⟩ := h
  refine ⟨oL, cL, h1, ?_, ?_, fun b off e => hG _ (h4 b off e)⟩
  · rcases h2 with h2 | ⟨b, off, e, hS⟩
    · exact .inl h2
    · obtain ⟨cs, m, hh⟩ := h3 b off e
      have hb := hk b cs m hh
      exact .inr ⟨b, off, e, Nat.lt_of_lt_of_le hS.low hs, fun j x hx => (Ser.cell_same hb).trans (hS.at0 j x hx), fun j x hx => (Ser.cell_same hb).trans (hS.at1 j x hx)⟩
  · intro b off e
    obtain ⟨cs, m, hh⟩ := h3 b off e
    exact ⟨cs, m, (hk b cs m hh).trans hh⟩
theorem OneS.kept {F G : Nat → Prop} {w w' : World} {u v : Value} {x : Srs} (h : OneS F w u v x) (hs : w.heap.size ≤ w'.heap.size) (hk : ∀ (k : Nat) cs m, w.heap[k]? = some (Obj.cells cs 49 m) → w'.heap[k]? = w.heap[k]?) (hk2 : ∀ g, v.ownBlock = some g → w'.heap[g]? = w.heap[g]?) (hG : ∀ k, F k → G k) : OneS G w' u v x :=
  ⟨lab_kept h.lab hs hk hG, own_same h.pts hk2, fun g hg => hG _ (h.ptsF g hg)⟩
/-- The series' row with one more point in one of its series. -/
theorem Row.more {F : Nat → Prop} {w w1 : World} {v : Value} {us : List (Value × Value)} {xs : List Srs} (h : Row F w v us xs) (hl : ∀ k, F k → k < w.heap.size) {j gs g1 c1 : Nat} {q : Value × Value} {x : Srs} {pt : Pt} (hgs : v.ownBlock = some gs)
    (hq : us[j]? = some q) (hx : xs[j]? = some x) (hg : w.grownBy w1 q.2.ownBlock) (hown : w1.ownsRow 0 54 2 (.slice (some ⟨g1, 0, none⟩) (x.2.length + 1) c1) (x.2.length + 1) (Pnt.flatL (x.2 ++ [pt])))
    (hat : q.2.ownBlock = some g1 ∨ w.heap.size ≤ g1) (hg1 : g1 < w1.heap.size) :
    Row (Grow F w w1) (w1.setCell ⟨gs, j * 2 + 1, none⟩ (.slice (some ⟨g1, 0, none⟩) (x.2.length + 1) c1)) v (us.set j (q.1, .slice (some ⟨g1, 0, none⟩) (x.2.length + 1) c1)) (xs.set j (x.1, x.2 ++ [pt])) ∧ Sep F w (w1.setCell ⟨gs, j * 2 + 1, none⟩ (.slice (some ⟨g1, 0, none⟩) (x.2.length + 1) c1)) := by
  obtain ⟨q', hq', hone⟩ := h.one j x hx
  rw [hq] at hq'
  cases hq'
  have hju : j < us.length := (List.getElem?_eq_some_iff.1 hq).1
  have hFg : F gs := h.ownF gs hgs
  have hSep1 : Sep F w w1 := Sep.of_grown hg fun k hk => hone.ptsF k hk
  have hkeep : ∀ k, k < w.heap.size → q.2.ownBlock ≠ some k → w1.heap[k]? = w.heap[k]? := fun k hk hne => hg.block k hk fun e => hne e.symm
  have hqs : q.2.ownBlock ≠ some gs := fun e => typ_ne (own_typ hone.pts e) (own_typ h.own hgs) (by decide) rfl
  have hown1 : w1.ownsRow 0 52 2 v us.length (Ser.flatU us) := own_same h.own fun g hgg => by
    rw [hgs] at hgg
    cases hgg
    exact hkeep _ (hl _ hFg) hqs
  have htg := own_typ hown1 hgs
  have hset := own_put (u := .slice (some ⟨g1, 0, none⟩) (x.2.length + 1) c1) hown1 hgs (i := j * 2 + 1) (by omega)
  rw [setU_at us j q _ hq] at hset
  have hother : ∀ k, k ≠ gs → (w1.setCell ⟨gs, j * 2 + 1, none⟩ (.slice (some ⟨g1, 0, none⟩) (x.2.length + 1) c1)).heap[k]? = w1.heap[k]? := fun k hk => Below.heap_setCell _ _ _ _ hk
  have hsz : (w1.setCell ⟨gs, j * 2 + 1, none⟩ (.slice (some ⟨g1, 0, none⟩) (x.2.length + 1) c1)).heap.size = w1.heap.size := by simp [World.setCell]
  obtain ⟨W, hW⟩ : ∃ W, w1.setCell ⟨gs, j * 2 + 1, none⟩ (.slice (some ⟨g1, 0, none⟩) (x.2.length + 1) c1) = W := ⟨_, rfl⟩
  have hSep2 : Sep F w1 W := by rw [← hW]; exact Sep.of_set w1 (p := ⟨gs, j * 2 + 1, none⟩) hFg _
  rw [hW] at hset hother hsz ⊢
  have hs : w.heap.size ≤ W.heap.size := by rw [hsz]; exact hg.size
  have hlab : ∀ (k : Nat) cs m, w.heap[k]? = some (Obj.cells cs 49 m) → W.heap[k]? = w.heap[k]? := fun k cs m hh => by
    rw [hother k (typ_ne ⟨cs, m, hh⟩ (own_typ h.own hgs) (by decide))]
    exact hkeep k (Array.getElem?_eq_some_iff.1 hh).1 fun e => typ_ne (own_typ hone.pts e) ⟨cs, m, hh⟩ (by decide) rfl
  have hF1 : ∀ g, (Value.slice (some ⟨g1, 0, none⟩) (x.2.length + 1) c1).ownBlock = some g → Grow F w w1 g := fun g hgg => by
    have : g1 = g := by simpa [Value.ownBlock] using hgg
    subst this
    rcases hat with hat | hat
    · exact .inl (hone.ptsF _ hat)
    · exact .inr ⟨by omega, hg1⟩
  have hval : ∀ i p, (us.set j (q.1, .slice (some ⟨g1, 0, none⟩) (x.2.length + 1) c1))[i]? = some p → (i = j ∧ p = (q.1, .slice (some ⟨g1, 0, none⟩) (x.2.length + 1) c1)) ∨ (i ≠ j ∧ us[i]? = some p) := fun i p hp => by
    by_cases hij : j = i
    · subst hij
      rw [List.getElem?_set_self hju] at hp
      cases hp
      exact .inl ⟨rfl, rfl⟩
    · rw [List.getElem?_set_ne hij] at hp
      exact .inr ⟨fun e => hij e.symm, hp⟩
  have hpu : ∀ i p, i ≠ j → us[i]? = some p → ∀ g, p.2.ownBlock = some g → g ≠ g1 ∧ g < w.heap.size := fun i p hij hp g hgg => by
    have hin : i < xs.length := by rw [← h.len]; exact (List.getElem?_eq_some_iff.1 hp).1
    obtain ⟨p', hp', hop⟩ := h.one i xs[i] (List.getElem?_eq_getElem hin)
    rw [hp] at hp'
    cases hp'
    have hlt := hl g (hop.ptsF g hgg)
    refine ⟨?_, hlt⟩
    rintro rfl
    rcases hat with hat | hat
    · rcases h.apart i j p q hij hp hq with e | e
      · rw [hgg] at e; cases e
      · exact e (hgg.trans hat.symm)
    · omega
  refine ⟨⟨by simp [h.len], by rw [List.length_set]; exact hset, fun g hgg => .inl (h.ownF g hgg), fun i y hy => ?_, fun i k p r hik hp hr => ?_⟩, hSep1.next hSep2⟩
  · by_cases hij : j = i
    · subst hij
      rw [List.getElem?_set_self (List.getElem?_eq_some_iff.1 hx).1] at hy
      cases hy
      refine ⟨_, List.getElem?_set_self hju, lab_kept hone.lab hs hlab (fun _ h => .inl h), ?_, hF1⟩
      rw [List.length_append]
      exact own_same hown fun g hgg => hother g (typ_ne (own_typ hown hgg) htg (by decide))
    · rw [List.getElem?_set_ne hij] at hy
      obtain ⟨p, hp, hop⟩ := h.one i y hy
      refine ⟨p, by rw [List.getElem?_set_ne hij]; exact hp, hop.kept hs hlab (fun g hgg => ?_) (fun _ h => .inl h)⟩
      have hlt := hl g (hop.ptsF g hgg)
      rw [hother g (typ_ne (own_typ hop.pts hgg) (own_typ h.own hgs) (by decide))]
      refine hkeep g hlt fun e => ?_
      rcases h.apart i j p q (fun e => hij e.symm) hp hq with e2 | e2
      · rw [hgg] at e2; cases e2
      · exact e2 (hgg.trans e.symm)
  · rcases hval i p hp with ⟨rfl, rfl⟩ | ⟨hi, hp2⟩
    · rcases hval k r hr with ⟨rfl, rfl⟩ | ⟨hk, hr2⟩
      · exact absurd rfl hik
      · exact .inr fun e => (hpu k r hk hr2 g1 (by rw [← e]; rfl)).1 rfl
    · rcases hval k r hr with ⟨rfl, rfl⟩ | ⟨hk, hr2⟩
      · cases ho : p.2.ownBlock with
        | none => exact .inl rfl
        | some g => exact .inr fun e => (hpu i p hi hp2 g ho).1 (by simpa [Value.ownBlock] using e)
      · exact h.apart i k p r hik hp2 hr2
end Go.Proofs.Ytmidpekkomhogaa.Sto
end
