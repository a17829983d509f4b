/-
  THE WALK OF RowsEncode.
-/
import Derived.Test.YtiilhnedflmgoaaKit
namespace Go.Proofs.Ytiilhnedflmgoaa.rowsEncode
open Go.RowKit Go.Sort
attribute [local go_sem high] run_eqs
set_option maxRecDepth 100000 in
set_option maxHeartbeats 8000000 in
theorem walked (A : Option Addr) (n c : Nat) (cs : List C) (B : Option Addr) (m d : Nat) (vs : List V) (w : World) (ha : ColsIn w A n c cs) (hb : RowIn w B m d vs) :
    Calls Try.prog 4 #[.slice A n c, .slice B m d] w fun e w' => e = .returned (.bool true) ∧ Below w.heap.size w w' := by
  have ln := ha.1.1
  have lm := hb.1.1
  have HA := Lib.hid (fun (W : World) (h : Below w.heap.size w W) => ha.1.below h)
  have HB := Lib.hid (fun (W : World) (h : Below w.heap.size w W) => hb.1.below h)
  have H1 := Lib.hid (lentC_any A n c cs w ha.1 ha.2.2)
  have H2 := Lib.hid (fun (W : World) (h : RV W B m vs) => lent_any B m d vs W h hb.2.2)
  have HW := Lib.hid (fun W => awake_any W)
  clear ha hb
  go_enter Try.func4, Try.ntmps4
  go_wp2_with fail
  refine H1.out.mono ?_
  rintro e w1 ⟨g, c1, rfl, hl⟩
  have HB1 := Lib.hid hl.2.2.2.2.2
  have hnc := hl.1
  have HL := Lib.hid hl
  clear hl H1
  have HC := Lib.hid (H2.out w1 (HB.out _ HB1.out))
  go_wp2_with fail
  refine HC.out.mono ?_
  rintro e w2 ⟨g2, c2, rfl, hl2⟩
  have hb2 := hl2.2.2.2.2.2
  have HB2 := Lib.hid (below_trans HB1.out hb2)
  have HL1 := Lib.hid (fun (W : World) (h : Below w2.heap.size w2 W) => lentC_below HL.out (below_trans hb2 h))
  have HL2 := Lib.hid (fun (W : World) (h : Below w2.heap.size w2 W) => lent_below hl2 h)
  have HX1 := Lib.hid (fun (W : World) (h : Below w2.heap.size w2 W) => ln ▸ (lentC_below HL.out (below_trans hb2 h)).rv)
  have HX2 := Lib.hid (fun (W : World) (h : Below w2.heap.size w2 W) => lm ▸ (lent_below hl2 h).rv)
  have HD2 := Lib.hid (Below.refl w2.heap.size w2)
  clear hb2 hl2 HC H2 HL HB1
  have HC := Lib.hid (fits_any _ n c1 cs _ m c2 vs w2 (HX1.out _ HD2.out) (HX2.out _ HD2.out) (by omega))
  go_wp2_with fail
  refine HC.out.mono ?_
  rintro e w3 ⟨rfl, hb3⟩
  have HD3 := Lib.hid (below_trans HD2.out hb3)
  clear hb3 HC HD2
  have HC := Lib.hid (encode_any _ n c1 cs _ m c2 vs w3 (HX1.out _ HD3.out) (HX2.out _ HD3.out) (by omega))
  go_wp2_with fail
  refine HC.out.mono ?_
  rintro e w4 ⟨rfl, hb4⟩
  have HD4 := Lib.hid (below_trans HD3.out hb4)
  clear hb4 HC HD3
  have HC := Lib.hid (rencode_any A n c cs B m d vs w4 (HA.out _ (below_trans HB2.out HD4.out)) (HB.out _ (below_trans HB2.out HD4.out)))
  go_wp2_with fail
  refine HC.out.mono ?_
  rintro e w5 ⟨rfl, hb5⟩
  have HD5 := Lib.hid (below_trans HD4.out hb5)
  clear hb5 HC HD4
  have HC := Lib.hid (rfits_any A n c cs B m d vs w5 (HA.out _ (below_trans HB2.out HD5.out)) (HB.out _ (below_trans HB2.out HD5.out)))
  generalize fitsE cs vs = e1 at *
  generalize encE cs vs = e2 at *
  generalize encS cs vs = S at *
  have q1 : (e1 == e1) = true := by simp
  have q2 : (e2 == e2) = true := by simp
  have q3 := seq_refl S
  go_wp2_with fail
  refine HC.out.mono ?_
  rintro e w6 ⟨rfl, hb6⟩
  have HD6 := Lib.hid (below_trans HD5.out hb6)
  clear hb6 HC HD5
  have HC := Lib.hid (kept_any g c1 n A c cs g2 c2 m B d vs _ _ w6 (HL1.out _ HD6.out) (HA.out _ (below_trans HB2.out HD6.out)) (HL2.out _ HD6.out) (HB.out _ (below_trans HB2.out HD6.out)))
  go_wp2_with fail
  refine HC.out.mono ?_
  rintro e w7 ⟨rfl, hb7⟩
  have HD7 := Lib.hid (below_trans HD6.out hb7)
  clear hb7 HC HD6
  go_wp2_with fail
  refine (HW.out _).mono ?_
  rintro e w8 ⟨rfl, hb8⟩
  have HF := Lib.hid (below_trans HB2.out (below_trans HD7.out hb8))
  clear hb8
  go_wp2
  go_ret
  exact ⟨rfl, HF.out⟩
end Go.Proofs.Ytiilhnedflmgoaa.rowsEncode
