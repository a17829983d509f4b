/-
  HOW A VALUE THAT COMES IN IS OPENED; what the row's list and the world's shape give; a world for the witness.
-/
import Derived.Test.YtjfpkjpicalfmaaDoorWalkQ
import Derived.Test.YtjfpkjpicalfmaaDoorCards
import Derived.Test.YtjfpkjpicalfmaaDoorTie
import Derived.ProofKit
import Derived.OpenShut
import Derived.ShutString
import Derived.ChangeOld
import Derived.Below
import Derived.SizedLaws
import Derived.Lay
import Derived.Shelf.Vars
import Derived.Lib.SmallJoins
import Derived.Lib.LaidTab
import Derived.Deep.DeepHandedRow
namespace Go.Proofs.YtjfpkjpicalfmaaDoor
open Go.ChangeShapes Go.WideShapes Go.ChangeAt Go.RowKit

theorem own : ownKnob Tryd.prog.godebug = none := by kernel_rfl
theorem laidOut : laidOutB Tryd.prog = true := by kernel_rfl
theorem cells23 : Tryd.prog.cellsOf 23 = 3 := by kernel_rfl

structure VOk (x : V) : Prop where
  k : In64 x.k
  n : In64 x.n
  s : x.s.size ≤ 9223372036854775807
set_option maxRecDepth 100000 in
theorem v_open {H : Type} {enc : TypeId × Value → H} {W : World} {base : Nat} {v : Value} {d : DataW H} {p : List MemPlace}
    (hv : Value.okWide Tryd.prog W .any base 23 v) (h : DataW.Trod enc Tryd.prog W 0 (fun _ => true) true 23 v d p) : ∃ x : V, VOk x ∧ v = x.agg := by
  obtain ⟨v0, v1, v2, y0, y1, y2, n, rfl, _, _, g0, g1, g2⟩ := Go.Joins.open_agg3 Tryd.underlying23 (by kernel_rfl) cells23 hv h
  obtain ⟨q0, e0, _, w0⟩ := DataW.trod_int Tryd.underlying3 g0
  obtain ⟨q1, e1, _, w1⟩ := DataW.trod_int Tryd.underlying2 g1
  obtain ⟨s2, e2, _, w2⟩ := DataW.trod_string Tryd.underlying9 g2
  simp only [List.cons.injEq, and_true] at e0 e1 e2
  subst e0 e1 e2
  have b0 : -9223372036854775808 ≤ q0 ∧ q0 ≤ 9223372036854775807 := by simpa [Lit.wf, IntKind.min, IntKind.max, IntKind.signed, IntKind.bits] using w0
  have b1 : -9223372036854775808 ≤ q1 ∧ q1 ≤ 9223372036854775807 := by simpa [Lit.wf, IntKind.min, IntKind.max, IntKind.signed, IntKind.bits] using w1
  exact ⟨⟨q0, q1, s2⟩, ⟨b0, b1, w2⟩, rfl⟩
theorem sm_of {W : World} (h : W.ShapedOpen Tryd.prog) : Sm W := cell_of_shapedOpen_int (P := Tryd.prog) (g := 1) (t := 3) (zero := #[.int .i64 0]) h (of_decide_eq_true (by kernel_rfl)) (by kernel_rfl) rfl (by kernel_rfl) (by kernel_rfl) Tryd.underlying3

/-- what each of the rows lists -/
def laidV : List (String × DataW Unit) := Rows.valueMayRow.laid
noncomputable def laidW (os : Os) : World := World.laidAll Tryd.prog os laidV
theorem laid_met (os : Os) (args : Array Value) : laidMet Tryd.prog laidV ((laidW os).forCall (fun _ _ => 0) ⟨#[], args, []⟩).memory := laidMet_laidAll _ (by kernel_rfl) (by kernel_rfl)
def z0 : Value := .agg #[.int .i64 0, .int .i64 0, .string ⟨#[]⟩]
def d0 {H : Type} : DataW H := .agg [.lit (.int .i64 0), .lit (.int .i64 0), .lit (.string [])]
end Go.Proofs.YtjfpkjpicalfmaaDoor
