/-
PR
-/
import Derived.Test.YtdhgbkibbileiaaGreatPQ
import Derived.Test.YtdhgbkibbileiaaGreatPG
set_option maxRecDepth 100000
namespace Go.Proofs.YtdhgbkibbileiaaGreat
open Go.RowKit
section
attribute [local go_sem high] run_neqL run_eqL
theorem fr_set {w w' : World} {g : Nat} (h : Fr w w' fun b => b = g) (i : Nat) (u : Value) : Fr w (w'.setCell ⟨g, i, none⟩ u) fun b => b = g := h.setCell (p := ⟨g, i, none⟩) (Or.inl rfl) u
end
end Go.Proofs.YtdhgbkibbileiaaGreat
