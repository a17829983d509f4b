/-
  THE WALK OF the document's Reckon.
-/
import Derived.Test.YtjfpkjpicalfmaaDoorWalkU
import Derived.Test.YtjfpkjpicalfmaaDoorWalkO
import Derived.Test.YtjfpkjpicalfmaaDoorWalkP
import Derived.Test.YtjfpkjpicalfmaaDoorWalkI
namespace Go.Proofs.YtjfpkjpicalfmaaDoor
open Go.RowKit Go.Sort
attribute [local go_sem high] run_eq23 run_neq23 run_eq9

theorem reck_bad {i : Nat} {a b : V} (h : want 1 [a, b] ≠ 0) : reckV i a b = ⟨0, 0, ⟨#[]⟩⟩ ∧ reckE i a b = want 1 [a, b] := by
  unfold reckV reckE
  rw [if_neg h, if_neg h]
  exact ⟨rfl, rfl⟩
theorem reck_null {i : Nat} {a b : V} (h : want 1 [a, b] = 0) (hn : (a.k == 0 || b.k == 0) = true) : reckV i a b = ⟨0, 0, ⟨#[]⟩⟩ ∧ reckE i a b = 0 := by
  obtain ⟨h1, h2⟩ := want_may h (by decide)
  unfold reckV reckE
  rw [if_pos h, if_pos h, isNull_may h1, isNull_may h2, if_pos hn, if_pos hn]
  exact ⟨rfl, rfl⟩
theorem reck_full {i : Nat} {a b : V} (h : want 1 [a, b] = 0) (hn : (a.k == 0 || b.k == 0) = false) :
    reckV i a b = (if calcE i a.n b.n = 0 then ⟨1, calcN i a.n b.n, ⟨#[]⟩⟩ else ⟨0, 0, ⟨#[]⟩⟩) ∧ reckE i a b = calcE i a.n b.n := by
  obtain ⟨h1, h2⟩ := want_may h (by decide)
  unfold reckV reckE
  rw [if_pos h, if_pos h, isNull_may h1, isNull_may h2, hn]
  exact ⟨rfl, rfl⟩
theorem calc_ok {i : Nat} {x y : Int} (hy : i < 3 ∨ y ≠ 0) (h : In64 (opI i x y)) : calcE i x y = 0 ∧ calcN i x y = opI i x y := by
  have he : calcE i x y = 0 := by
    unfold calcE
    rw [if_neg (by omega), if_pos h]
  exact ⟨he, by unfold calcN; rw [if_pos he]⟩
theorem calc_no {i : Nat} {x y : Int} (hy : i < 3 ∨ y ≠ 0) (h : ¬ In64 (opI i x y)) : calcE i x y = 31 := by
  unfold calcE
  rw [if_neg (by omega), if_neg h]
theorem calc_nought {i : Nat} {x : Int} (hi : 3 ≤ i) : calcE i x 0 = 32 := by
  unfold calcE
  rw [if_pos ⟨hi, rfl⟩]
end Go.Proofs.YtjfpkjpicalfmaaDoor
