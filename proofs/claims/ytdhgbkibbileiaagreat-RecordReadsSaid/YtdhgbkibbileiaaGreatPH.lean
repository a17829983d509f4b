/-
PH
-/
import Derived.Test.YtdhgbkibbileiaaGreatPD
import Derived.Test.YtdhgbkibbileiaaGreatPG
set_option maxRecDepth 100000
namespace Go.Proofs.YtdhgbkibbileiaaGreat
open Go.RowKit
def takes (k : Int) : Bool := k == 1 || k == 2
theorem takesOps_any (k : Int) (w : World) : Calls Tryz.prog 129 #[.int .i64 k] w fun e w' => e = .returned (.bool (takes k)) ∧ w = w' := by
 have ht : takes k = ((k == 1) || (k == 2)) := rfl
 rw [ht]
 clear ht
 cases h1 : (k == 1) with
 | true =>
   go_enter Tryz.func129, Tryz.ntmps129
   go_wp2
   go_ret
   exact ⟨rfl, rfl⟩
 | false =>
   go_enter Tryz.func129, Tryz.ntmps129
   go_wp2
   go_ret
   exact ⟨by simp, rfl⟩
end Go.Proofs.YtdhgbkibbileiaaGreat
