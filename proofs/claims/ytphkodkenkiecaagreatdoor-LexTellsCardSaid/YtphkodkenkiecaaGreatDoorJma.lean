/- Slices of words, read. -/
import Derived.Test.YtphkodkenkiecaaGreatDoorJl
namespace Go.Proofs.YtphkodkenkiecaaGreatDoor
open Go.RowKit

theorem size_arr (l : List UInt8) : (⟨l.toArray⟩ : ByteArray).size = l.length := by simp [ByteArray.size]
/-- A slice that reads as these words. -/
def SeesW (w : World) (o : Option Addr) (ws : List Wd) : Prop := ws = [] ∨ ∃ b off, o = some ⟨b, off, none⟩ ∧ b < w.heap.size ∧ ∀ (j : Nat) (x : Wd), ws[j]? = some x →
  w.cell? ⟨b, off + j * 3, none⟩ = some (.int .i64 (x.1 : Nat)) ∧ w.cell? ⟨b, off + j * 3 + 1, none⟩ = some (.int .i64 (x.2.1 : Nat)) ∧ w.cell? ⟨b, off + j * 3 + 2, none⟩ = some (.string ⟨x.2.2.toArray⟩)
theorem SeesW.below {w w' : World} {o : Option Addr} {ws : List Wd} (h : SeesW w o ws) (hb : Below w.heap.size w w') : SeesW w' o ws :=
  h.imp id fun ⟨b, off, e, h1, h2⟩ => ⟨b, off, e, Nat.lt_of_lt_of_le h1 hb.size, fun j x hx => by
    obtain ⟨a, b', c⟩ := h2 j x hx
    exact ⟨(hb.cell (p := ⟨b, off + j * 3, none⟩) h1).trans a, (hb.cell (p := ⟨b, off + j * 3 + 1, none⟩) h1).trans b', (hb.cell (p := ⟨b, off + j * 3 + 2, none⟩) h1).trans c⟩⟩
theorem flatT_at : ∀ (xs : List Wd) (j : Nat) (x : Wd), xs[j]? = some x → ∀ (t : Nat) (u : Value), (encT x)[t]? = some u → (flatT xs)[j * 3 + t]? = some u
  | [], j, x, h, t, u, _ => by simp at h
  | y :: xs, 0, x, h, t, u, hu => by
    simp at h; subst h
    show (encT y ++ flatT xs)[0 * 3 + t]? = some u
    have ht : t < (encT y).length := (List.getElem?_eq_some_iff.1 hu).1
    rw [List.getElem?_append_left (by omega), Nat.zero_mul, Nat.zero_add]; exact hu
  | y :: xs, j + 1, x, h, t, u, hu => by
    simp at h
    show (encT y ++ flatT xs)[(j + 1) * 3 + t]? = some u
    have hl : (encT y).length = 3 := rfl
    rw [List.getElem?_append_right (by omega), hl, show (j + 1) * 3 + t - 3 = j * 3 + t by omega]
    exact flatT_at xs j x h t u hu
/-- What the call owns reads so. -/
theorem own_words {B : Nat} {v : Value} {ws : List Wd} {w : World} (h : w.ownsRow B 45 3 v ws.length (flatT ws)) : ∃ o c, v = .slice o ws.length c ∧ SeesW w o ws := by
  obtain ⟨h1, h2⟩ := h
  rcases h2 with ⟨rfl, h0⟩ | ⟨g, cap, cur, rfl, hB, hg, hn, hcm, hcs, htk⟩
  · have : ws = [] := List.eq_nil_of_length_eq_zero h0
    subst this
    exact ⟨none, 0, rfl, .inl rfl⟩
  · refine ⟨some ⟨g, 0, none⟩, cap, rfl, .inr ⟨g, 0, rfl, (Array.getElem?_eq_some_iff.1 hg).1, fun j x hx => ?_⟩⟩
    have key : ∀ (t : Nat) (u : Value), (encT x)[t]? = some u → w.cell? ⟨g, 0 + j * 3 + t, none⟩ = some u := by
      intro t u hu
      have h3 := flatT_at ws j x hx t u hu
      rw [← htk] at h3
      have h4 : cur.toList[j * 3 + t]? = some u := by
        have hl := (List.getElem?_eq_some_iff.1 h3).1
        rw [List.length_take] at hl
        rwa [List.getElem?_take_of_lt (by omega)] at h3
      rw [Nat.zero_add]
      simp only [World.cell?, hg]
      simpa using h4
    exact ⟨key 0 _ rfl, key 1 _ rfl, key 2 _ rfl⟩

end Go.Proofs.YtphkodkenkiecaaGreatDoor
