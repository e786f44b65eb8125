import Derived.Test.YtbcemjhaecelnaaGreatDoorCards
import Derived.Test.YtbcemjhaecelnaaGreatDoorTie
import Derived.Test.YtbcemjhaecelnaaGreatDoorMg06
import Derived.ProofKit
import Derived.OpenShut
import Derived.LaidMore
import Derived.SizedLaws
import Derived.Stop.Joined
import Derived.Stop.LaidErr
section
namespace Go.Proofs.YtbcemjhaecelnaaGreatDoor
open Go.ChangeShapes Go.WideShapes Go.ChangeAt Go.RowKit
open Go.ChangeMaps (open_string shut_string)
theorem lex_range {z : Int} (h : (Lit.int .i64 z).wf = true) : -9223372036854775808 <= z /\ z <= 9223372036854775807 := by
 simp [Lit.wf] at h
 exact ⟨by have h1 : IntKind.min .i64 = -9223372036854775808 := by decide
           rw [<- h1]; exact h.1, h.2⟩
theorem own : ownKnob Tryz.prog.godebug = none := by kernel_rfl
theorem gES : Tryz.prog.globalNamed "strconv.ErrSyntax" = some 4 := by kernel_rfl
theorem gESType : (Tryz.prog.globals[4]?).map (·.type) = some 68 := by kernel_rfl
theorem gPT : Tryz.prog.globalNamed "internal/strconv.uint64pow10" = some 0 := by kernel_rfl
theorem gPTType : (Tryz.prog.globals[0]?).map (·.type) = some 141 := by kernel_rfl
theorem cells73 : Tryz.prog.cellsOf 204 = 1 := by kernel_rfl
theorem cells9 : Tryz.prog.cellsOf 9 = 1 := by kernel_rfl
theorem star : "*" ++ "errors.errorString" = "*errors.errorString" := by decide
theorem row71 (u : TypeId) (h : Tryz.prog.typeName? 3 u = some "*errors.errorString") : u = 202 :=
 typeName_ptr_named (nm := "errors.errorString") (by rw [star]; kernel_rfl) (by kernel_rfl) (by decide) u (by rw [star]; exact h)
theorem tab_data : (Rows.laid_internal_strconv_uint64pow10 : DataW Unit) = Lib.tabData .u64 Lib.pow10Tab := by rfl
theorem env_of_laid {W : World} (h : laidMetH Tryz.prog Rows.parseWordsRow.laid W) : Env W := by
 rw [MakeChecks.laidMetH_plain _ _ _ (by kernel_rfl)] at h
 obtain ⟨a0, s0, hv0, -, -, -⟩ := laid_sentinel h.tail.tail.tail.tail gES gESType Tryz.underlying68 row71 Tryz.underlying202 Tryz.underlying204 rfl rfl Tryz.underlying9 cells73 cells9
 have hc : W.cell? ⟨4, 0, none⟩ = some (.iface 202 (.pointer (some a0))) := by have := World.var?_cell gES hv0 0; simpa using this
 refine ⟨⟨_, hc, .inr ⟨_, _, rfl⟩⟩, World.block_lt_of_cell? _ _ hc, ?_⟩
 have h2 := h.tail.tail
 rw [tab_data] at h2
 exact Lib.tabIs_of_head gPT gPTType Tryz.underlying141 Tryz.underlying129 (by kernel_rfl) (by kernel_rfl) h2
theorem door_met (os : Os) (args : Array Value) : laidMetH Tryz.prog Rows.parseWordsRow.laid ((World.doorLaid Tryz.prog 400 os).forCall (fun _ _ => 0) ⟨#[], args, []⟩).memory := by
 rw [MakeChecks.laidMetH_plain _ _ _ (by kernel_rfl)]
 exact laidMet_of_run' 8 (by kernel_rfl) (by kernel_rfl)
end Go.Proofs.YtbcemjhaecelnaaGreatDoor
end
