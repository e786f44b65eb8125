/- Plain: what is in use, and the most that ever was. -/
import Derived.Below
namespace Go.Proofs.Ytlnlhimnbiabcaa.Pur

structure Pu where
  room : Int
  now : Int
  high : Int
deriving DecidableEq
def newP (room : Int) : Pu := ⟨min (max room 0) 1000000, 0, 0⟩
def takeU (p : Pu) (n : Int) : Pu × Bool := if n < 0 ∨ p.room - p.now < n then (p, false) else (⟨p.room, p.now + n, max p.high (p.now + n)⟩, true)
def giveU (p : Pu) (n : Int) : Pu × Bool := if n < 0 ∨ p.now < n then (p, false) else (⟨p.room, p.now - n, p.high⟩, true)
structure WellP (p : Pu) : Prop where
  low : 0 ≤ p.now
  now : p.now ≤ p.high
  high : p.high ≤ p.room
  room : p.room ≤ 1000000
theorem well_new (r : Int) : WellP (newP r) := by
  unfold newP
  exact ⟨Int.le_refl _, Int.le_refl _, by dsimp only; omega, by dsimp only; omega⟩
theorem well_take {p : Pu} (h : WellP p) (n : Int) : WellP (takeU p n).1 := by
  obtain ⟨h1, h2, h3, h4⟩ := h
  unfold takeU
  split
  · exact ⟨h1, h2, h3, h4⟩
  · exact ⟨by dsimp only; omega, by dsimp only; omega, by dsimp only; omega, h4⟩
theorem well_give {p : Pu} (h : WellP p) (n : Int) : WellP (giveU p n).1 := by
  obtain ⟨h1, h2, h3, h4⟩ := h
  unfold giveU
  split
  · exact ⟨h1, h2, h3, h4⟩
  · exact ⟨by dsimp only; omega, by dsimp only; omega, h3, h4⟩
/-- What is taken of a list, one behind the other. -/
def takesU : Pu → List Int → Pu × List Int
  | p, [] => (p, [])
  | p, n :: l => if (takeU p n).2 = true then ((takesU (takeU p n).1 l).1, n :: (takesU (takeU p n).1 l).2) else takesU p l
def givesU : Pu → List Int → Pu × Bool
  | p, [] => (p, true)
  | p, n :: l => if (giveU p n).2 = true then givesU (giveU p n).1 l else (p, false)
theorem takes_all : ∀ (l : List Int) (p : Pu), WellP p → p.high = p.now → (takesU p l).1 = ⟨p.room, p.now + (takesU p l).2.sum, p.now + (takesU p l).2.sum⟩ ∧ (∀ n ∈ (takesU p l).2, 0 ≤ n) ∧ 0 ≤ (takesU p l).2.sum
  | [], p, _, h => by
    refine ⟨?_, fun _ h => (nomatch h), Int.le_refl _⟩
    cases p with
    | mk r w x =>
      dsimp only at h
      subst h
      simp [takesU]
  | n :: l, p, hw, h => by
    rw [takesU]
    by_cases hg : n < 0 ∨ p.room - p.now < n
    · have e : takeU p n = (p, false) := by unfold takeU; rw [if_pos hg]
      rw [e, if_neg (by simp)]
      exact takes_all l p hw h
    · have e : takeU p n = (⟨p.room, p.now + n, max p.high (p.now + n)⟩, true) := by unfold takeU; rw [if_neg hg]
      have hw2 := well_take hw n
      rw [e] at hw2 ⊢
      rw [if_pos rfl]
      obtain ⟨i1, i2, i3⟩ := takes_all l _ hw2 (by dsimp only; omega)
      dsimp only at i1 i2 i3 ⊢
      rw [List.sum_cons]
      refine ⟨?_, fun m hm => ?_, by omega⟩
      · rw [i1, Int.add_assoc]
      · rcases List.mem_cons.1 hm with rfl | hm
        · omega
        · exact i2 m hm
theorem sum_low : ∀ {l : List Int}, (∀ n ∈ l, 0 ≤ n) → 0 ≤ l.sum
  | [], _ => Int.le_refl _
  | n :: l, h => by
    have h1 := h n (List.mem_cons_self ..)
    have h2 := sum_low fun m hm => h m (List.mem_cons_of_mem _ hm)
    rw [List.sum_cons]; omega
theorem gives_all : ∀ (l : List Int) (p : Pu), (∀ n ∈ l, 0 ≤ n) → l.sum ≤ p.now → givesU p l = (⟨p.room, p.now - l.sum, p.high⟩, true)
  | [], p, _, _ => by
    rw [givesU, List.sum_nil, Int.sub_zero]
  | n :: l, p, h, hs => by
    have h1 := h n (List.mem_cons_self ..)
    have h2 := sum_low fun m hm => h m (List.mem_cons_of_mem _ hm)
    rw [List.sum_cons] at hs ⊢
    have e : giveU p n = (⟨p.room, p.now - n, p.high⟩, true) := by unfold giveU; rw [if_neg (by omega)]
    rw [givesU, e, if_pos rfl, gives_all l _ (fun m hm => h m (List.mem_cons_of_mem _ hm)) (by dsimp only; omega)]
    dsimp only
    rw [show p.now - n - l.sum = p.now - (n + l.sum) by omega]
/-- What was taken and given back leaves what there was, but for the most that ever was. -/
theorem back_all (room : Int) (h0 : 0 ≤ room) (h1 : room ≤ 1000000) (l : List Int) :
    (takesU (newP room) l).1 = ⟨room, (takesU (newP room) l).2.sum, (takesU (newP room) l).2.sum⟩ ∧
    givesU (takesU (newP room) l).1 (takesU (newP room) l).2 = (⟨room, 0, (takesU (newP room) l).2.sum⟩, true) := by
  have hr : (newP room).room = room := by unfold newP; dsimp only; omega
  obtain ⟨i1, i2, i3⟩ := takes_all l (newP room) (well_new room) rfl
  rw [hr, show (newP room).now = 0 from rfl, Int.zero_add] at i1
  refine ⟨i1, ?_⟩
  rw [i1, gives_all _ _ i2 (by dsimp only; omega)]
  dsimp only
  rw [Int.sub_self]
end Go.Proofs.Ytlnlhimnbiabcaa.Pur
