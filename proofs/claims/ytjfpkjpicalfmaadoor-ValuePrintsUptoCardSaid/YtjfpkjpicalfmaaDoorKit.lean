/-
  THE BOXES OF A LAW's THREE ARGUMENTS.
-/
import Derived.Test.YtjfpkjpicalfmaaDoorWalkR
import Derived.Test.YtjfpkjpicalfmaaDoorOpen
namespace Go.Proofs.YtjfpkjpicalfmaaDoor
open Go.RowKit Go.Sort

theorem veq_refl (k n : Int) (s : ByteArray) : veq k n s k n s = true := veq_eq.2 ⟨rfl, rfl, rfl⟩
/-- three arguments' boxes -/
def P3 (w : World) (a b c : V) : World := (M2 w a b).alloc (.cells #[.int .i64 c.k, .int .i64 c.n, .string c.s] 23)
theorem p3_size (w : World) (a b c : V) : (P3 w a b c).heap.size = w.heap.size + 3 := by simp [P3, M2]
theorem p3_boxes {w w' : World} {a b c : V} (h : Below (P3 w a b c).heap.size (P3 w a b c) w') :
    (w'.cell? ⟨w.heap.size, 0, none⟩ = some (.int .i64 a.k) ∧ w'.cell? ⟨w.heap.size, 1, none⟩ = some (.int .i64 a.n) ∧ w'.cell? ⟨w.heap.size, 2, none⟩ = some (.string a.s)) ∧
    (w'.cell? ⟨w.heap.size + 1, 0, none⟩ = some (.int .i64 b.k) ∧ w'.cell? ⟨w.heap.size + 1, 1, none⟩ = some (.int .i64 b.n) ∧ w'.cell? ⟨w.heap.size + 1, 2, none⟩ = some (.string b.s)) ∧
    (w'.cell? ⟨w.heap.size + 2, 0, none⟩ = some (.int .i64 c.k) ∧ w'.cell? ⟨w.heap.size + 2, 1, none⟩ = some (.int .i64 c.n) ∧ w'.cell? ⟨w.heap.size + 2, 2, none⟩ = some (.string c.s)) ∧
    Below w.heap.size w w' := by
  have hs := p3_size w a b c
  have h1 : Below (w.heap.size + 2) (M2 w a b) w' := ((Below.refl _ _).alloc (by simp [M2]) _).trans (h.mono (by omega))
  obtain ⟨c1, c2, hb, _⟩ := two_boxes h1 (Nat.le_refl _)
  have c3 := (Box.new (M2 w a b) c.k c.n c.s).below h (by rw [hs]; simp [M2])
  have e : (M2 w a b).heap.size = w.heap.size + 2 := by simp [M2]
  rw [e] at c3
  exact ⟨c1, c2, c3, hb⟩
end Go.Proofs.YtjfpkjpicalfmaaDoor
