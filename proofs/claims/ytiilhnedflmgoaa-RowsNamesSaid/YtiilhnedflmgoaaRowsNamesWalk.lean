/-
  THE WALK OF RowsNames.
-/
import Derived.Test.YtiilhnedflmgoaaKit
namespace Go.Proofs.Ytiilhnedflmgoaa.rowsNames
open Go.RowKit Go.Sort
set_option maxRecDepth 100000 in
set_option maxHeartbeats 4000000 in
theorem walked (s : ByteArray) (A : Option Addr) (n c : Nat) (cs : List C) (w : World) (hs : s.size ≤ 9223372036854775807) (ha : ColsIn w A n c cs) :
    Calls Try.prog 3 #[.string s, .slice A n c] w fun e w' => e = .returned (.bool true) ∧ Below w.heap.size w w' := by
  have ln := ha.1.1
  have H1 := Lib.hid (fun W => name_any s hs W)
  have H2 := Lib.hid (fun W => rname_any s hs W)
  have H3 := Lib.hid (lentC_any A n c cs w ha.1 ha.2.2)
  have HA := Lib.hid (fun (W : World) (h : Below w.heap.size w W) => rmayC_any A n c cs W (ha.1.below h))
  have HM := Lib.hid (fun (W : World) (g c1 : Nat) (h : RC W (some ⟨g, 0, none⟩) n cs) (hc : n ≤ c1) => mayC_any (some ⟨g, 0, none⟩) n c1 cs W h hc)
  have HW := Lib.hid (fun W => awake_any W)
  generalize isName s = b at *
  generalize mayC cs = q at *
  clear ha hs
  have hb : (b == b) = true := by simp
  have hq : (q == q) = true := by simp
  go_enter Try.func3, Try.ntmps3
  go_wp2_with fail
  refine (H1.out _).mono ?_
  rintro e w1 ⟨rfl, rfl⟩
  go_wp2_with fail
  refine (H2.out _).mono ?_
  rintro e w1 ⟨rfl, rfl⟩
  go_wp2_with fail
  refine H3.out.mono ?_
  rintro e w1 ⟨g, c1, rfl, hl⟩
  have HB1 := Lib.hid hl.2.2.2.2.2
  have HC1 := Lib.hid (HM.out w1 g c1 (by have := hl.rv; rw [ln] at this; exact this) (by have := hl.1; omega))
  clear hl H3 HM
  go_wp2_with fail
  refine HC1.out.mono ?_
  rintro e w2 ⟨rfl, hb2⟩
  have HB2 := Lib.hid (below_trans HB1.out hb2)
  clear hb2 HB1 HC1
  go_wp2_with fail
  refine (HA.out _ HB2.out).mono ?_
  rintro e w3 ⟨rfl, hb3⟩
  have HB3 := Lib.hid (below_trans HB2.out hb3)
  clear hb3 HB2
  go_wp2_with fail
  refine (HW.out _).mono ?_
  rintro e w4 ⟨rfl, hb4⟩
  have HB4 := Lib.hid (below_trans HB3.out hb4)
  clear hb4
  go_wp2
  go_ret
  exact ⟨rfl, HB4.out⟩
end Go.Proofs.Ytiilhnedflmgoaa.rowsNames
