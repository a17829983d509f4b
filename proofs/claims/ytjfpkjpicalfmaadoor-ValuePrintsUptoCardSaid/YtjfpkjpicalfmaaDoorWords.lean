/-
  WORDS FOR MEMORY, AND EQUALITY AS THE WALK HAS IT: a value's three cells; a row of values.
-/
import Derived.Test.YtjfpkjpicalfmaaDoorRows
import Derived.Test.YtjfpkjpicalfmaaDoorMath
import Derived.WalkKit
import Derived.WalkLawsBesides
import Derived.WalkSpells
import Derived.Laws.StructEq
import Derived.OpenShut
import Derived.Deep.Draws
import Derived.Lib.Hide
import Derived.Lib.QuietBelow
import Derived.BigQuiet
import Derived.Deep.RegionHeld3
import Derived.StillTailTactics
import Derived.Outline
import Derived.Handy
namespace Go.Proofs.YtjfpkjpicalfmaaDoor
open Go.RowKit Go.Sort

theorem run_eq23 (k n : Int) (s : ByteArray) (k' n' : Int) (s' : ByteArray) (w : World) :
    (binOp .eql 23 (.agg #[.int .i64 k, .int .i64 n, .string s]) (.agg #[.int .i64 k', .int .i64 n', .string s'])).run Tryd.prog w = .ok (.bool (veq k n s k' n' s')) w := by
  go_simp
  unfold veq seq
  by_cases h1 : k = k' <;> by_cases h2 : n = n' <;> by_cases h3 : s.toList = s'.toList <;> simp [h1, h2, h3]
theorem run_neq23 (k n : Int) (s : ByteArray) (k' n' : Int) (s' : ByteArray) (w : World) :
    (binOp .neq 23 (.agg #[.int .i64 k, .int .i64 n, .string s]) (.agg #[.int .i64 k', .int .i64 n', .string s'])).run Tryd.prog w = .ok (.bool (!veq k n s k' n' s')) w := by
  go_simp
  unfold veq seq
  by_cases h1 : k = k' <;> by_cases h2 : n = n' <;> by_cases h3 : s.toList = s'.toList <;> simp [h1, h2, h3]
theorem run_eq9 (a b : ByteArray) : binOp .eql 9 (.string a) (.string b) = pure (.bool (seq a b)) := binOp_string_eql 9 a b

/-- the three cells of a value -/
def Box (w : World) (g o : Nat) (k n : Int) (s : ByteArray) : Prop :=
  w.cell? ⟨g, o, none⟩ = some (.int .i64 k) ∧ w.cell? ⟨g, o + 1, none⟩ = some (.int .i64 n) ∧ w.cell? ⟨g, o + 2, none⟩ = some (.string s)
theorem Box.lt {w : World} {g o : Nat} {k n : Int} {s : ByteArray} (h : Box w g o k n s) : g < w.heap.size := block_lt_of_cell h.1
theorem Box.below {w w' : World} {B g o : Nat} {k n : Int} {s : ByteArray} (h : Box w g o k n s) (hb : Below B w w') (hg : g < B) : Box w' g o k n s :=
  ⟨(hb.cell (p := ⟨g, _, none⟩) hg).trans h.1, (hb.cell (p := ⟨g, _, none⟩) hg).trans h.2.1, (hb.cell (p := ⟨g, _, none⟩) hg).trans h.2.2⟩
theorem Box.up {w w' : World} {g o : Nat} {k n : Int} {s : ByteArray} (h : Box w g o k n s) (hb : Below w.heap.size w w') : Box w' g o k n s := h.below hb h.lt
theorem Box.new (w : World) (k n : Int) (s : ByteArray) : Box (w.alloc (.cells #[.int .i64 k, .int .i64 n, .string s] 23)) w.heap.size 0 k n s := by
  refine ⟨?_, ?_, ?_⟩ <;> go_simp
theorem Box.alloc {w : World} {g o : Nat} {k n : Int} {s : ByteArray} (h : Box w g o k n s) (x : Obj) : Box (w.alloc x) g o k n s :=
  h.up ((Below.refl _ _).alloc (Nat.le_refl _) _)
theorem Box.grown {w : World} {g o : Nat} {k n : Int} {s : ByteArray} (h : Box w g o k n s) : (∀ d os, (grow (redrawn w d) os).cell? ⟨g, o, none⟩ = some (.int .i64 k)) ∧ (∀ d os, (grow (redrawn w d) os).cell? ⟨g, o + 1, none⟩ = some (.int .i64 n)) ∧ (∀ d os, (grow (redrawn w d) os).cell? ⟨g, o + 2, none⟩ = some (.string s)) :=
  ⟨fun d os => cell_regrown h.1 d os, fun d os => cell_regrown h.2.1 d os, fun d os => cell_regrown h.2.2 d os⟩

/-- a row of values from the head of a block on -/
def Vs (w : World) (g : Nat) (vs : List V) : Prop := ∀ i v, vs[i]? = some v → Box w g (i * 3) v.k v.n v.s
theorem Vs.below {w w' : World} {B g : Nat} {vs : List V} (h : Vs w g vs) (hb : Below B w w') (hg : g < B) : Vs w' g vs := fun i v hv => (h i v hv).below hb hg
theorem below_trans {w w1 w2 : World} (h : Below w.heap.size w w1) (k : Below w1.heap.size w1 w2) : Below w.heap.size w w2 := h.trans (k.mono h.size)
end Go.Proofs.YtjfpkjpicalfmaaDoor
