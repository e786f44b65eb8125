/- The law on sums of parts, put together. -/
import Derived.Test.YtooibjanlmlidaaSa
namespace Go.Proofs.Ytooibjanlmlidaa
open Go.RowKit
theorem sums_any (o : Option Addr) (cap : Nat) (zs : List Int) (cut : Int) (w : World) (hm : zs.length ≤ maxLen) (hS : SeesI w o zs) (hc : zs.length ≤ cap) (hcm : cap ≤ maxLen) :
    Calls Try.prog 8 #[.slice o zs.length cap, .int .i64 cut] w fun e w' => e = .returned (.bool true) ∧ Below w.heap.size w w' := by
  by_cases h : zs.length = 0 ∨ 100 < zs.length
  · exact sums_none o cap zs.length cut hm h w
  · exact sums_all o cap zs cut w hS (fun e => h (.inl (by rw [e]; rfl))) hc hcm (by omega)
end Go.Proofs.Ytooibjanlmlidaa
