/-
  THE BOXES OF TWO ARGUMENTS AND OF A RESULT.
-/
import Derived.Test.YtjfpkjpicalfmaaDoorWalkG
namespace Go.Proofs.YtjfpkjpicalfmaaDoor
open Go.RowKit Go.Sort

/-- the boxes of two arguments and of the result, behind whatever made new memory -/
def M3 (w : World) (a b : V) : World := (M2 w a b).alloc (.cells #[.int .i64 0, .int .i64 0, .string ⟨#[]⟩] 23)
def Boxes (w : World) (r : Nat) (k n : Int) (s : ByteArray) (k' n' : Int) (s' : ByteArray) : Prop :=
  w.cell? ⟨r, 0, none⟩ = some (.int .i64 k) ∧ w.cell? ⟨r, 1, none⟩ = some (.int .i64 n) ∧ w.cell? ⟨r, 2, none⟩ = some (.string s) ∧
    w.cell? ⟨r + 1, 0, none⟩ = some (.int .i64 k') ∧ w.cell? ⟨r + 1, 1, none⟩ = some (.int .i64 n') ∧ w.cell? ⟨r + 1, 2, none⟩ = some (.string s')
theorem three_boxes {w w' : World} {a b : V} {B : Nat} (h : Below B (M3 w a b) w') (hB : w.heap.size + 3 ≤ B) :
    Boxes w' w.heap.size a.k a.n a.s b.k b.n b.s ∧ Zero w' (w.heap.size + 2) ∧ Below w.heap.size w w' ∧ w.heap.size + 2 < w'.heap.size := by
  have h1 : Below (w.heap.size + 2) (M2 w a b) w' := ((Below.refl _ _).alloc (by simp [M2]) _).trans (h.mono (by omega))
  obtain ⟨⟨c0, c1, c2⟩, ⟨d0, d1, d2⟩, hb, _⟩ := two_boxes h1 (Nat.le_refl _)
  have hz : Zero w' (w.heap.size + 2) := by
    have := (Zero.new (M2 w a b)).below h (by simp [M2]; omega)
    simpa [M2] using this
  exact ⟨⟨c0, c1, c2, d0, d1, d2⟩, hz, hb, hz.lt⟩
theorem behind {w w' : World} {a b : V} {B : Nat} {o : Obj} (h : Below B ((M3 w a b).alloc o).drew w') (hB : w.heap.size + 3 ≤ B) : Below (w.heap.size + 3) (M3 w a b) w' :=
  (((Below.refl _ _).alloc (by simp [M3, M2]) _).drew).trans (h.mono hB)
end Go.Proofs.YtjfpkjpicalfmaaDoor
