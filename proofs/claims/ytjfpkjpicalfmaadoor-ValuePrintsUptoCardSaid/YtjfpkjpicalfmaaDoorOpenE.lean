/-
  WHAT THE LIST OF A ROW WITH THE LIBRARY's TWO ERRORS GIVES; a world for its witness.
-/
import Derived.Test.YtjfpkjpicalfmaaDoorRead
import Derived.Deep.DeepWitnessRowRef
import Derived.Stop.LaidErr
namespace Go.Proofs.YtjfpkjpicalfmaaDoor
open Go.ChangeShapes Go.WideShapes Go.ChangeAt Go.RowKit

theorem gTab : Tryd.prog.globalNamed "internal/strconv.uint64pow10" = some 0 := by kernel_rfl
theorem gTabType : (Tryd.prog.globals[0]?).map (·.type) = some 107 := by kernel_rfl
theorem cells107 : Tryd.prog.cellsOf 107 = 20 := by kernel_rfl
theorem cells72 : Tryd.prog.cellsOf 72 = 1 := by kernel_rfl
theorem gSyn : Tryd.prog.globalNamed "strconv.ErrSyntax" = some 4 := by kernel_rfl
theorem gRan : Tryd.prog.globalNamed "strconv.ErrRange" = some 5 := by kernel_rfl
theorem gSynType : (Tryd.prog.globals[4]?).map (·.type) = some 83 := by kernel_rfl
theorem gRanType : (Tryd.prog.globals[5]?).map (·.type) = some 83 := by kernel_rfl
theorem cells140 : Tryd.prog.cellsOf 140 = 1 := by kernel_rfl
theorem cells9' : Tryd.prog.cellsOf 9 = 1 := by kernel_rfl
theorem star' : "*" ++ "errors.errorString" = "*errors.errorString" := by decide
theorem row138 (u : TypeId) (h : Tryd.prog.typeName? 3 u = some "*errors.errorString") : u = 138 :=
  typeName_ptr_named (nm := "errors.errorString") (by rw [star']; kernel_rfl) (by kernel_rfl) (by decide) u (by rw [star']; exact h)

/-- what the two rows with the errors list -/
def laidVE : List (String × DataW Unit) := Rows.valueBackRow.laid
set_option maxRecDepth 100000 in
theorem laid_gives {W : World} (hL : laidMetH Tryd.prog laidVE W) : Er W ∧ Pw W := by
  rw [MakeChecks.laidMetH_plain _ _ _ (by kernel_rfl)] at hL
  have h3 := hL.tail.tail
  have h5 := h3.tail.tail
  have h6 := h5.tail
  obtain ⟨a1, s1, hv1, _⟩ := laid_sentinel h5 gRan gRanType Tryd.underlying83 row138 Tryd.underlying138 Tryd.underlying140 rfl rfl Tryd.underlying9 cells140 cells9'
  obtain ⟨a2, s2, hv2, _⟩ := laid_sentinel h6 gSyn gSynType Tryd.underlying83 row138 Tryd.underlying138 Tryd.underlying140 rfl rfl Tryd.underlying9 cells140 cells9'
  exact ⟨⟨⟨_, _, hv2⟩, ⟨_, _, hv1⟩⟩, Lib.tabIs_of_head (zs := Lib.pow10Tab) gTab gTabType Tryd.underlying107 Tryd.underlying72 cells72 cells107 h3⟩
noncomputable def laidE (os : Os) : World := World.laidAll Tryd.prog os laidVE
theorem laid_metE (os : Os) (args : Array Value) : laidMet Tryd.prog laidVE ((laidE os).forCall (fun _ _ => 0) ⟨#[], args, []⟩).memory := laidMet_laidAll _ (by kernel_rfl) (by kernel_rfl)
end Go.Proofs.YtjfpkjpicalfmaaDoor
