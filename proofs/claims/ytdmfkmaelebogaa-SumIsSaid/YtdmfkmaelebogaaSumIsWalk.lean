/-
  THE WALK OF SumIs: the sum of any bytes, from any sum on, is the document's.
-/
import Derived.Test.YtdmfkmaelebogaaWalkF
namespace Go.Proofs.Ytdmfkmaelebogaa.sumIs
open Go.RowKit

theorem walked (s : Nat) (A : Option Addr) (n c : Nat) (l : List Nat) (w : World) (hs : s < 4294967296) (h : In w A n c l) :
    Calls Try.prog 3 #[.int .u32 s, .slice A n c] w fun e w' => e = .returned (.bool true) ∧ Below w.heap.size w w' := by
  have hn : n ≤ 140737488351232 := h.2.2.1
  have HI := Lib.hid h
  clear h
  go_enter Try.func3, Try.ntmps3
  go_wp2_with fail
  refine (copy_any A n c l _ HI.out).mono ?_
  rintro e w1 ⟨A1, c1, rfl, hc1, hb1, hr1⟩
  have HR := Lib.hid (HI.out.1.below hb1)
  have HR1 := Lib.hid hr1
  clear hr1
  go_wp2_with fail
  refine (sof_any A n c l _ (by simp only [maxLen]; omega) HR.out).mono ?_
  rintro e w2 ⟨rfl, rfl⟩
  go_wp2_with fail
  refine (rof_any A1 n c1 l _ (by simp only [maxLen]; omega) HR1.out).mono ?_
  rintro e w2 ⟨rfl, rfl⟩
  go_wp2_with fail
  refine (smore_any s A n c l _ hs (by simp only [maxLen]; omega) HR.out).mono ?_
  rintro e w2 ⟨rfl, rfl⟩
  go_wp2_with fail
  refine (rmore_any s A1 n c1 l _ hs (by simp only [maxLen]; omega) HR1.out).mono ?_
  rintro e w2 ⟨rfl, rfl⟩
  go_wp2_with fail
  refine (same_any A A1 n c n c1 l _ HR.out HR1.out).mono ?_
  rintro e w2 ⟨rfl, rfl⟩
  go_wp2_with fail
  refine (alive_any _).mono ?_
  rintro e w4 ⟨rfl, hb4⟩
  go_wp2
  go_ret
  exact ⟨rfl, hb1.trans (hb4.mono hb1.size)⟩
end Go.Proofs.Ytdmfkmaelebogaa.sumIs
