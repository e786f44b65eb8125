/- Which row comes first, by an order: plain. -/
import Derived.Test.YtlnlbahggbbaeaaGreatHa
import Derived.Test.YtlnlbahggbbaeaaGreatGd
namespace Go.Proofs.YtlnlbahggbbaeaaGreat.Stb
open Go.Sort Go.Proofs.YtlnlbahggbbaeaaGreat

abbrev RwS := List Lab × Int
def lessR (by_ : Int) (x y : RwS) : Bool :=
  if by_ = 1 ∧ x.2 ≠ y.2 then decide (x.2 < y.2) else if by_ = 2 ∧ x.2 ≠ y.2 then decide (y.2 < x.2) else decide (cmpL x.1 y.1 < 0)
theorem swo_less (by_ : Int) : SWO (lessR by_) where
  irrefl x := by
    unfold lessR
    rw [if_neg (by simp), if_neg (by simp), (cmpL_zero x.1 x.1).2 rfl]; rfl
  trans x y z h1 h2 := by
    unfold lessR at h1 h2 ⊢
    have hl : cmpL x.1 y.1 < 0 → cmpL y.1 z.1 < 0 → cmpL x.1 z.1 < 0 := cmpL_lt_trans
    by_cases b1 : by_ = 1
    · subst b1
      by_cases e1 : x.2 = y.2 <;> by_cases e2 : y.2 = z.2 <;> by_cases e3 : x.2 = z.2 <;> simp_all <;> omega
    · by_cases b2 : by_ = 2
      · subst b2
        by_cases e1 : x.2 = y.2 <;> by_cases e2 : y.2 = z.2 <;> by_cases e3 : x.2 = z.2 <;> simp_all <;> omega
      · simp [b1, b2] at h1 h2 ⊢
        exact hl h1 h2
  ntrans x y z h1 h2 := by
    unfold lessR at h1 h2 ⊢
    have hs := cmpL_swap x.1 y.1
    have hs2 := cmpL_swap y.1 z.1
    have hs3 := cmpL_swap x.1 z.1
    have hl : cmpL y.1 x.1 ≤ 0 → cmpL z.1 y.1 ≤ 0 → cmpL z.1 x.1 ≤ 0 := fun a b => cmpL_trans _ _ _ b a
    by_cases b1 : by_ = 1
    · subst b1
      by_cases e1 : x.2 = y.2 <;> by_cases e2 : y.2 = z.2 <;> by_cases e3 : x.2 = z.2 <;> simp_all <;> omega
    · by_cases b2 : by_ = 2
      · subst b2
        by_cases e1 : x.2 = y.2 <;> by_cases e2 : y.2 = z.2 <;> by_cases e3 : x.2 = z.2 <;> simp_all <;> omega
      · simp [b1, b2] at h1 h2 ⊢
        have := hl (by omega) (by omega)
        omega
/-- Sorted by putting one behind the other where it belongs. -/
def insF (by_ : Int) (out : List RwS) (x : RwS) : List RwS := mg (lessR by_) out [x]
def sortF (by_ : Int) (l : List RwS) : List RwS := l.foldl (insF by_) []
theorem sortF_go (by_ : Int) : ∀ (l a : List RwS), l.foldl (insF by_) (srt (lessR by_) a) = srt (lessR by_) (a ++ l)
  | [], a => by rw [List.foldl_nil, List.append_nil]
  | x :: l, a => by
    rw [List.foldl_cons, insF, show mg (lessR by_) (srt (lessR by_) a) [x] = srt (lessR by_) (a ++ [x]) by
      have := mg_srt (swo_less by_) a [x]
      rwa [srt_one] at this, sortF_go by_ l, List.append_assoc]; rfl
theorem sortF_srt (by_ : Int) (l : List RwS) : sortF by_ l = srt (lessR by_) l := by
  have := sortF_go by_ l []
  rwa [srt_nil, List.nil_append] at this
end Go.Proofs.YtlnlbahggbbaeaaGreat.Stb
