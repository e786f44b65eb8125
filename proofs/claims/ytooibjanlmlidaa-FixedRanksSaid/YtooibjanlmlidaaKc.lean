/- The law on numbers at places, put together. -/
import Derived.Test.YtooibjanlmlidaaKb
namespace Go.Proofs.Ytooibjanlmlidaa
open Go.RowKit
theorem ranks_any (o : Option Addr) (cap : Nat) (zs : List Int) (p q : Int) (w : World) (hm : zs.length ≤ maxLen) (hS : SeesI w o zs) :
    Calls Try.prog 6 #[.slice o zs.length cap, .int .i64 p, .int .i64 q] w fun e w' => e = .returned (.bool true) ∧ Below w.heap.size w w' := by
  by_cases h : zs.length = 0 ∨ 200 < zs.length ∨ p < 0 ∨ q < p ∨ 100 < q
  · exact ranks_none o cap zs.length p q hm h w
  · exact ranks_all o cap zs p q w hS (fun e => h (.inl (by rw [e]; rfl))) (by omega) (by omega) (by omega) (by omega)
end Go.Proofs.Ytooibjanlmlidaa
