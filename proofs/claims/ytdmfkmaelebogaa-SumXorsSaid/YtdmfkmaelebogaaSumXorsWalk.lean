/-
  THE WALK OF SumXors: of two texts of one length xored byte by byte the sum is both sums xored, and that of as many noughts.
-/
import Derived.Test.YtdmfkmaelebogaaSumXorsGt
import Derived.Test.YtdmfkmaelebogaaSumXorsLe
namespace Go.Proofs.Ytdmfkmaelebogaa.sumXors
open Go.RowKit

theorem walked (A : Option Addr) (na ca : Nat) (la : List Nat) (B : Option Addr) (nb cb : Nat) (lb : List Nat) (w : World) (ha : In w A na ca la) (hb : In w B nb cb lb) :
    Calls Try.prog 5 #[.slice A na ca, .slice B nb cb] w fun e w' => e = .returned (.bool true) ∧ Below w.heap.size w w' := by
  by_cases hc : nb < na
  · exact walk_gt A na ca la B nb cb lb w ha hb hc
  · exact walk_le A na ca la B nb cb lb w ha hb hc
end Go.Proofs.Ytdmfkmaelebogaa.sumXors
