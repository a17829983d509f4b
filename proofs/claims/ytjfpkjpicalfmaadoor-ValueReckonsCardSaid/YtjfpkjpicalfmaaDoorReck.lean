/-
  THE WALK OF the document's Reckon.
-/
import Derived.Test.YtjfpkjpicalfmaaDoorReck0
import Derived.Test.YtjfpkjpicalfmaaDoorReck1
import Derived.Test.YtjfpkjpicalfmaaDoorReck2
import Derived.Test.YtjfpkjpicalfmaaDoorReck3
import Derived.Test.YtjfpkjpicalfmaaDoorReck4
namespace Go.Proofs.YtjfpkjpicalfmaaDoor
open Go.RowKit Go.Sort

theorem reckon_any (i : Nat) (hi : i < 5) (a b : V) (ha : In64 a.n) (hb : In64 b.n) (hsa : a.s.size ≤ 9223372036854775807) (hsb : b.s.size ≤ 9223372036854775807) (w : World) :
    Calls Tryd.prog 35 #[.int .i64 (i : Int), .agg #[.int .i64 a.k, .int .i64 a.n, .string a.s], .agg #[.int .i64 b.k, .int .i64 b.n, .string b.s]] w fun e w' =>
      e = .returned (.tuple #[.agg #[.int .i64 (reckV i a b).k, .int .i64 (reckV i a b).n, .string (reckV i a b).s], .int .i64 (reckE i a b)]) ∧ Below w.heap.size w w' := by
  have : i = 0 ∨ i = 1 ∨ i = 2 ∨ i = 3 ∨ i = 4 := by omega
  rcases this with rfl | rfl | rfl | rfl | rfl
  · exact reckon0 a b ha hb hsa hsb w
  · exact reckon1 a b ha hb hsa hsb w
  · exact reckon2 a b ha hb hsa hsb w
  · exact reckon3 a b ha hb hsa hsb w
  · exact reckon4 a b ha hb hsa hsb w
end Go.Proofs.YtjfpkjpicalfmaaDoor
