/-
STAGE 8: WHAT GIVES UP, AND HOW IT IS CAUGHT: must, codeOf, isEntry, answer.
-/
import Derived.Test.YtcajidlekfkjlaaPWords
import Derived.Defers
import Derived.Recover
import Derived.BigQuiet
import Derived.Handy
namespace Go.Proofs.Ytcajidlekfkjlaa
open Go.RowKit

/-- a panic with a fault of this package -/
def fltV (c : Int) : Value := .iface 91 (.agg #[.int .i64 c])
def Flt (c : Int) : Ending := .panicked [{ v := fltV c, recovered := false }]
set_option maxRecDepth 100000 in
theorem must_yes (c : Int) (w : World) : Calls Try.prog 23 #[.bool true, .int .i64 c] w fun e w' => e = .returned (.tuple #[]) ∧ w = w' := by
  go_enter Try.func23, Try.ntmps23
  go_wp2
  go_end0
  exact ⟨rfl, rfl⟩
set_option maxRecDepth 100000 in
theorem must_no (c : Int) (w : World) : Calls Try.prog 23 #[.bool false, .int .i64 c] w fun e w' => e = Flt c ∧ w = w' := by
  go_enter Try.func23, Try.ntmps23
  go_wp2
  exact ⟨rfl, rfl, rfl⟩
set_option maxRecDepth 100000 in
theorem codeOf_any (c : Int) (w : World) : Calls Try.prog 46 #[fltV c] w fun e w' => e = .returned (.int .i64 c) ∧ Below w.heap.size w w' := by
  have hta : ∀ w : World, (Instr.typeAssert (.iface 91 (.agg #[.int .i64 c])) 20 91 true).run Try.prog w = .ok (.tuple #[.agg #[.int .i64 c], .bool true]) w := fun _ => by kernel_rfl
  unfold fltV
  go_enter Try.func46, Try.ntmps46
  go_wp2
  go_ret
  exact ⟨rfl, (Below.refl _ _).alloc (Nat.le_refl _) _⟩
set_option maxRecDepth 100000 in
theorem isEntry_any (A : Option Addr) (n c : Nat) (w : World) : Calls Try.prog 24 #[.slice A n c] w fun e w' => e = .returned (.bool (decide (1 ≤ n) && decide (n ≤ 146))) ∧ w = w' := by
  by_cases h1 : 1 ≤ n
  · have d1 : decide ((n : Int) ≥ 1) = true := decide_eq_true (by omega)
    have d1b : decide (1 ≤ n) = true := decide_eq_true h1
    have d2 : decide ((n : Int) ≤ 146) = decide (n ≤ 146) := by rw [decide_eq_decide]; omega
    go_enter Try.func24, Try.ntmps24
    go_wp2
    go_ret
    exact ⟨by rw [d1b]; rfl, rfl⟩
  · have d1 : decide ((n : Int) ≥ 1) = false := decide_eq_false (by omega)
    have d1b : decide (1 ≤ n) = false := decide_eq_false h1
    go_enter Try.func24, Try.ntmps24
    go_wp2
    go_ret
    exact ⟨by rw [d1b]; rfl, rfl⟩
end Go.Proofs.Ytcajidlekfkjlaa
