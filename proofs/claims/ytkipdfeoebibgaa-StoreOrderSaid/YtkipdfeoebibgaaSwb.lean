/- Two stores beside each other; a set of texts kept as a map; how long labels' text is. -/
import Derived.Test.YtkipdfeoebibgaaMg12
import Derived.Test.YtkipdfeoebibgaaZe
import Derived.Maps.Own
import Derived.Maps.Views
namespace Go.Proofs.Ytkipdfeoebibgaa.Sto
open Go.RowKit Go.Maps Go.WideMaps

/-- Two stores that share nothing, all of whose blocks are from B on. -/
structure Two (B : Nat) (w : World) (p q : Nat) (xs ys : List Srs) : Prop where
  ex : ∃ F G : Nat → Prop, St F w p xs ∧ St G w q ys ∧ (∀ k, F k → B ≤ k ∧ ¬ G k) ∧ ∀ k, G k → B ≤ k
theorem Two.swap {B : Nat} {w : World} {p q : Nat} {xs ys : List Srs} (h : Two B w p q xs ys) : Two B w q p ys xs := by
  obtain ⟨F, G, h1, h2, h3, h4⟩ := h.ex
  exact ⟨G, F, h2, h1, fun k hk => ⟨h4 k hk, fun hF => (h3 k hF).2 hk⟩, fun k hk => (h3 k hk).1⟩
theorem Two.on {B : Nat} {w w' : World} {p q : Nat} {xs ys : List Srs} (h : Two B w p q xs ys) (hb : Below w.heap.size w w') : Two B w' p q xs ys := by
  obtain ⟨F, G, h1, h2, h3, h4⟩ := h.ex
  exact ⟨F, G, h1.below hb, h2.below hb, h3, h4⟩
theorem Two.low {B : Nat} {w : World} {p q : Nat} {xs ys : List Srs} (h : Two B w p q xs ys) : B ≤ w.heap.size := by
  obtain ⟨F, G, h1, h2, h3, h4⟩ := h.ex
  have a := (h3 p h1.fp).1
  have b := h1.low p h1.fp
  omega
theorem two_new (_w W : World) (B p q : Nat) (hB : B ≤ p) (hpq : p ≠ q) (hBq : B ≤ q) (h1 : W.heap[p]? = some (.cells #[.slice none 0 0] 31 (0, 0))) (h2 : W.heap[q]? = some (.cells #[.slice none 0 0] 31 (0, 0))) : Two B W p q [] [] :=
  ⟨fun k => k = p, fun k => k = q, st_nil h1 rfl fun k hk => by subst hk; exact (Array.getElem?_eq_some_iff.1 h1).1, st_nil h2 rfl fun k hk => by subst hk; exact (Array.getElem?_eq_some_iff.1 h2).1,
    fun k hk => by subst hk; exact ⟨hB, hpq⟩, fun k hk => by subst hk; exact hBq⟩
theorem two_put (B : Nat) (w : World) (p q m c2 : Nat) (xs ys : List Srs) (o2 : Option Addr) (l : Labs) (t z : Int) (h : Two B w p q xs ys) (hf : Fine xs) (hm : l.length = m) (hls : Small l) (hS : SeesO w o2 l) :
    Calls Try.prog 8 #[.pointer (some ⟨p, 0, none⟩), .slice o2 m c2, .int .i64 t, .int .i64 z] w fun e w' =>
      e = .returned (.int .i64 (putC xs l t z).2) ∧ Below B w w' ∧ Two B w' p q (putC xs l t z).1 ys := by
  obtain ⟨F, G, h1, h2, h3, h4⟩ := h.ex
  have hB := h.low
  refine (put_any F w p m c2 xs o2 l t z h1 hf hm hls hS).mono fun e w' r => ?_
  obtain ⟨r1, r2, r3⟩ := r
  refine ⟨r1, r2.below hB fun k hk => (h3 k hk).1, Grow F w w', G, r3, h2.sep r2 fun k hG hF => (h3 k hF).2 hG, fun k hk => ?_, h4⟩
  rcases hk with hk | hk
  · exact h3 k hk
  · exact ⟨by omega, fun hG => by have := h2.low k hG; omega⟩

theorem cell_low {w : World} {b o : Nat} {v : Value} (h : w.cell? ⟨b, o, none⟩ = some v) : b < w.heap.size := by
  have := World.block_lt_of_cell? _ _ h
  exact this
theorem grown_below {w w' : World} (h : Below w.heap.size w w') : w.grownBy w' none := ⟨h.os, h.tape, h.output, h.size, fun i hi _ => h.block i hi⟩
/-- A set of texts, as a map to true. -/
def setD (D : DataW Unit) (l : List (List UInt8)) : DataW Unit := l.foldl (fun D s => D.put (.string s) (.lit (.bool true))) D
theorem setD_at : ∀ (l : List (List UInt8)) (D : DataW Unit) (s : List UInt8), IsMap D → (s ∈ l ∨ ∀ z, D.atKey (.string s) z = .lit (.bool true)) → ∀ z, (setD D l).atKey (.string s) z = .lit (.bool true)
  | [], D, s, _, h, z => by
    rcases h with h | h
    · simp at h
    · exact h z
  | a :: l, D, s, hD, h, z => by
    have hput : IsMap (D.put (.string a) (.lit (.bool true))) := hD.put _ _
    refine setD_at l _ s hput ?_ z
    by_cases e : s = a
    · subst e
      exact .inr fun z => atKey_put_same hD (by simp [WideAt.IsKeyLit]) _ z
    · rcases h with h | h
      · rcases List.mem_cons.1 h with h | h
        · exact absurd h e
        · exact .inl h
      · exact .inr fun z => by rw [atKey_put_other (by simpa using e)]; exact h z
theorem setD_snoc (D : DataW Unit) (l : List (List UInt8)) (s : List UInt8) : setD D (l ++ [s]) = (setD D l).put (.string s) (.lit (.bool true)) := by
  unfold setD; rw [List.foldl_append]; rfl
set_option maxRecDepth 100000 in
theorem bool_inv {v : Value} {d : DataW Unit} {ps : List MemPlace} (h : plainElem Try.prog 4 v = some (d, ps)) : ∃ b, v = .bool b ∧ d = .lit (.bool b) := by
  unfold plainElem at h
  rw [Try.underlying4] at h
  cases v <;> simp at h
  exact ⟨_, rfl, h.1.symm⟩
set_option maxRecDepth 100000 in
/-- What a look-up in the set finds. -/
theorem look_set {w : World} {m n : Nat} {l : List (List UInt8)} (h : w.ownsMap Try.prog 9 (plainElem Try.prog 4) m n (setD (.map []) l)) (s : ByteArray) (hs : s.size ≤ maxLen) :
    ∃ b, (Instr.lookup 42 (.map (some m)) (.string s) false).run Try.prog w = .ok (.bool b) w ∧ (b = false → s.data.toList ∉ l) := by
  have hkey : keyOf Try.prog 9 (.string s) = some (.string s.data.toList) := keyOf_string_mk (P := Try.prog) Try.underlying9 hs
  obtain ⟨v, ps, hrun, hv⟩ := h.lookup (Maps.string_keyed Try.underlying9) Try.underlying42 (z := .bool false) (by rfl) (plainElem_bool Try.underlying4 false) hkey
  obtain ⟨b, rfl, hb⟩ := bool_inv hv
  refine ⟨b, hrun, fun e hm => ?_⟩
  subst e
  rw [setD_at l _ _ isMap_empty (.inl hm)] at hb
  cases hb

/-- Labels' text, as the document tells it. -/
def tx (l : Labs) : ByteArray := ⟨(textT l).toArray⟩
theorem tx_list (l : Labs) : (tx l).data.toList = textT l := rfl
theorem tail_len : ∀ (xs : Labs), (∀ y ∈ xs, y.1.size ≤ 1000 ∧ y.2.size ≤ 1000) → (tailT xs).length ≤ 7000 * xs.length + 1
  | [], _ => by simp [tailT]
  | x :: xs, h => by
    have ih := tail_len xs fun y hy => h y (List.mem_cons_of_mem _ hy)
    have h1 := h x List.mem_cons_self
    have h2 := quoteL_len x.2.data.toList
    have e1 : x.1.data.toList.length = x.1.size := Array.length_toList
    have e2 : x.2.data.toList.length = x.2.size := Array.length_toList
    unfold tailT pairT
    simp only [List.length_cons, List.length_append]
    omega
theorem text_len {l : Labs} (h : Small l) : (textT l).length ≤ 7007000 := by
  have hl := h.len
  unfold textT
  match l, h, hl with
  | [], _, _ => simp [headT]
  | x :: xs, h, hl =>
    have h0 := tail_len xs fun y hy => h.sizes y (List.mem_cons_of_mem _ hy)
    have h1 := h.sizes x List.mem_cons_self
    have h2 := quoteL_len x.2.data.toList
    have e1 : x.1.data.toList.length = x.1.size := Array.length_toList
    have e2 : x.2.data.toList.length = x.2.size := Array.length_toList
    unfold headT pairT
    simp only [List.length_cons, List.length_append] at hl ⊢
    omega
theorem tx_size {l : Labs} (h : Small l) : (tx l).size ≤ 7007000 := by
  have := text_len h
  have e : (tx l).size = (textT l).length := by unfold tx; simp [ByteArray.size]
  omega
theorem text_small (o : Option Addr) (m c : Nat) (l : Labs) (w : World) (hm : l.length = m) (hl : Small l) (hS : SeesO w o l) :
    Calls Try.prog 11 #[.slice o m c] w fun e w' => e = .returned (.string (tx l)) ∧ Below w.heap.size w w' := by
  subst hm
  exact rtext_any o c l w (by have := hl.len; omega) hS hl.sizes
/-- All that is put in, as the plain texts have it. -/
theorem puts_two (a b : List OpT) : putsC (putsC [] a) b = puts (K := Labs) (puts (K := Labs) [] (a.map asO)) (b.map asO) := by rw [putsC_puts, putsC_puts]
theorem asO_key {x : OpT} {y : Labs × Pt} (h : asO x = some y) : y.1 = x.2.1 := by
  unfold asO at h
  split at h
  · cases h; rfl
  · cases h
theorem order_two {a b : List OpT} (hd : ∀ x ∈ a, ∀ y ∈ b, textT x.2.1 ≠ textT y.2.1) (h : (putsC (putsC [] a) b).length < 40) : putsC (putsC [] a) b = putsC (putsC [] b) a := by
  rw [puts_two, puts_two]
  rw [puts_two] at h
  refine order_free (fun x y hx hy e => ?_) h
  obtain ⟨u, hu, eu⟩ := List.mem_map.1 hx
  obtain ⟨v, hv, ev⟩ := List.mem_map.1 hy
  refine hd u hu v hv ?_
  rw [← asO_key eu, ← asO_key ev, e]
end Go.Proofs.Ytkipdfeoebibgaa.Sto
