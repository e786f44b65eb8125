/-
  No cell of these rows narrows 'for every input' (looked for: loops, veiled, ifaces, maps, wideKeys, modest, calm, conditions, laid).
  DERIVED. THE GIVEN ROWS OF THIS SEAT. 2 by the template 'for every input the law returns true; each argument reads behind the call as it read before'; 0 by the template 'total and deterministic' (their statements: YthjifpdiekoomaaTotals.lean).
  GIVEN WITH THE SEED: the statements are not yours to turn. If you find one false, say at which input.
  Laid BY PROGRAM, IN A SANDBOX (cutbox-rows.mjs): the forced cells as the released guide's own fill.sh prints them over the translation 20ec183233efbd24… (all of the seat's roots in one cut). By AI agents, Wed Nov 11 2026. No macro, syntax, notation, axiom, sorry.
-/
import Derived.Test.YthjifpdiekoomaaChecked
import GoSem.Claim
import GoSem.ClaimJoined
import GoSem.ClaimMapViews
import Derived.JoinedTies
import Derived.KernelRfl
namespace Go.Proofs.Ythjifpdiekoomaa
/- THE CELL 'sum', in the pinned program and in every row, IS THE sha256 OF THE DUMP (.gsa) THAT YthjifpdiekoomaaProg.lean LOADS. Nothing in Lean hashes anything: it is a label: what it is worth is what the hold of that sum in a sandbox is worth. -/
noncomputable def Try.pinned : Pinned := { name := "ythjifpdiekoomaa", sum := "20ec183233efbd24b953919496eec9ac16b6a3120fc10a466059fcbfb48359a5", checked := Try.checked }
namespace Rows
def none {H : Type} : Left H := { results := [], args := [] }

/-- 'leporellolaw13.RowUnlike': WHATEVER THE INPUT: true; the input reads as it did. -/
def rowUnlikeSpec : ChangeSpec := { name := "rowUnlike", fn := fun _ => fun
  | [d1, d2] => { results := [.lit (.bool true)], args := [d1, d2] }
  | _ => none }
def rowUnlikeRow : OpenClaim := { program := "ythjifpdiekoomaa", sum := "20ec183233efbd24b953919496eec9ac16b6a3120fc10a466059fcbfb48359a5", func := "leporello/leporellolaw13.RowUnlike", spec := "rowUnlike", inPlace := ["internal/abi.NoEscape"], unfollowed := true, recurses := true, apart := false }
def RowUnlikeSaid : Prop := rowUnlikeRow.holds Try.pinned (OpenSpec.ofChange rowUnlikeSpec)

/-- ITS FALSE NEIGHBOUR: 'it returns false'. Refute it at one input. -/
def rowUnlikeWrong : ChangeSpec := { name := "rowUnlike", fn := fun _ => fun
  | [d1, d2] => { results := [.lit (.bool false)], args := [d1, d2] }
  | _ => none }
def RowUnlikeWrongFalsely : Prop := rowUnlikeRow.holds Try.pinned (OpenSpec.ofChange rowUnlikeWrong)

/-- 'leporellolaw13.RowLists': WHATEVER THE INPUT: true; the input reads as it did. -/
def rowListsSpec : ChangeSpec := { name := "rowLists", fn := fun _ => fun
  | [d1, d2] => { results := [.lit (.bool true)], args := [d1, d2] }
  | _ => none }
def rowListsRow : OpenClaim := { program := "ythjifpdiekoomaa", sum := "20ec183233efbd24b953919496eec9ac16b6a3120fc10a466059fcbfb48359a5", func := "leporello/leporellolaw13.RowLists", spec := "rowLists", inPlace := ["internal/abi.NoEscape"], unfollowed := true, recurses := true, apart := false }
def RowListsSaid : Prop := rowListsRow.holds Try.pinned (OpenSpec.ofChange rowListsSpec)

/-- ITS FALSE NEIGHBOUR: 'it returns false'. Refute it at one input. -/
def rowListsWrong : ChangeSpec := { name := "rowLists", fn := fun _ => fun
  | [d1, d2] => { results := [.lit (.bool false)], args := [d1, d2] }
  | _ => none }
def RowListsWrongFalsely : Prop := rowListsRow.holds Try.pinned (OpenSpec.ofChange rowListsWrong)

/- THE SECOND FORM. 'bulk': how many values and letters a reading holds, each counted each time it is reached (what is shared counts as often as it is met; a slice's spare places count too). A statement '..UptoSaid' is the law's where the arguments, and the package variables that the reading takes, are together of bulk at most 1048576: NARROWER than '..Said'. Prove '..Said' where nothing that the law and all that it calls make is longer than what came in: it says more and counts as full. Else prove '..UptoSaid'. A law counts once. -/
mutual
def uptoBulk {H : Type} : DataW H → Nat
  | .lit (.string bytes) => bytes.length + 1
  | .lit _ => 1
  | .nil => 1
  | .ptr d => uptoBulk d + 1
  | .slice elems spare => uptoBulkAll elems + uptoBulkAll spare + 1
  | .agg parts => uptoBulkAll parts + 1
  | .iface _ d => uptoBulk d + 1
  | .map entries => uptoBulkEntries entries + 1
  | .held _ => 1
def uptoBulkAll {H : Type} : List (DataW H) → Nat
  | [] => 0
  | d :: r => uptoBulk d + uptoBulkAll r
def uptoBulkEntries {H : Type} : List (Lit × DataW H) → Nat
  | [] => 0
  | x :: r => uptoBulkEntry x + uptoBulkEntries r
def uptoBulkEntry {H : Type} : Lit × DataW H → Nat
  | (.string bytes, d) => bytes.length + uptoBulk d + 1
  | (_, d) => uptoBulk d + 1
 end
def uptoSmall : (H : Type) → List (DataW H) → Bool := fun _ ds => decide (uptoBulkAll ds ≤ 1048576)
def OpenSpec.upto (s : _root_.Go.ChangeSpec) : _root_.Go.OpenSpec := { _root_.Go.OpenSpec.ofChange s with cond := some uptoSmall }

/-- 'leporellolaw13.RowUnlike', WHERE WHAT IT READS IS OF BULK AT MOST 1048576: true; the input reads as it did. -/
def rowUnlikeUptoRow : OpenClaim := { program := "ythjifpdiekoomaa", sum := "20ec183233efbd24b953919496eec9ac16b6a3120fc10a466059fcbfb48359a5", func := "leporello/leporellolaw13.RowUnlike", spec := "rowUnlike", inPlace := ["internal/abi.NoEscape"], unfollowed := true, recurses := true, apart := false, narrowed := true }
def RowUnlikeUptoSaid : Prop := rowUnlikeUptoRow.holds Try.pinned (OpenSpec.upto rowUnlikeSpec)

/-- 'leporellolaw13.RowLists', WHERE WHAT IT READS IS OF BULK AT MOST 1048576: true; the input reads as it did. -/
def rowListsUptoRow : OpenClaim := { program := "ythjifpdiekoomaa", sum := "20ec183233efbd24b953919496eec9ac16b6a3120fc10a466059fcbfb48359a5", func := "leporello/leporellolaw13.RowLists", spec := "rowLists", inPlace := ["internal/abi.NoEscape"], unfollowed := true, recurses := true, apart := false, narrowed := true }
def RowListsUptoSaid : Prop := rowListsUptoRow.holds Try.pinned (OpenSpec.upto rowListsSpec)

end Rows
end Go.Proofs.Ythjifpdiekoomaa
