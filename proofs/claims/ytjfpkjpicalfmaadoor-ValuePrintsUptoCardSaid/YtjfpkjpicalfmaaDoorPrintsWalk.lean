/-
  THE WALK OF ValuePrints.
-/
import Derived.Test.YtjfpkjpicalfmaaDoorOpenE
import Derived.Test.YtjfpkjpicalfmaaDoorDocRead
namespace Go.Proofs.YtjfpkjpicalfmaaDoor.valuePrints
open Go.RowKit Go.Sort
attribute [local go_sem high] run_eq23 run_neq23 run_eq9

set_option maxRecDepth 100000 in
set_option maxHeartbeats 8000000 in
theorem walked (a : V) (b : ByteArray) (w : World) (ha : VOk a) (hb : b.size ≤ 1048576) (hw : Sm w) (hx : Er w ∧ Pw w) :
    Calls Tryd.prog 7 #[a.agg, .string b] w fun e w' => e = .returned (.bool true) ∧ Below w.heap.size w w' := by
  have C1 := Lib.hid (print_any a ha.s ha.n)
  have C2 := Lib.hid (rprint_any a ha.s ha.n)
  have C3 := Lib.hid (read_any b hb)
  have C4 := Lib.hid (rread_any b hb)
  have HA := Lib.hid (fun (W : World) (h : Sm W) => awake_any W h)
  have HB0 := Lib.hid (show Below w.heap.size w (w.alloc (.cells #[.int .i64 a.k, .int .i64 a.n, .string a.s] 23)) from (Below.refl _ _).alloc (Nat.le_refl _) _)
  have HW := Lib.hid hw
  have HX := Lib.hid hx.1
  have HP := Lib.hid hx.2
  unfold PrOut at C2
  unfold RdOut at C4
  clear hw hx ha hb
  generalize printB a = pb at C1 C2
  generalize printE a = pe at C1 C2
  generalize readV b = rv at C3 C4
  generalize readE b = re at C3 C4
  unfold V.agg
  obtain ⟨k, n, s⟩ := a
  obtain ⟨k3, n3, s3⟩ := rv
  simp only at C1 C2 C3 C4 HB0 ⊢
  have q1 := seq_refl pb
  have q2 := veq_refl k3 n3 s3
  go_enter Tryd.func7, Tryd.ntmps7
  go_wp2_with fail
  refine (C1.out _ (HW.out.below HB0.out) (tab_below HP.out HB0.out)).mono ?_
  rintro e w1 ⟨rfl, hb1⟩
  obtain ⟨c0, c1, c2⟩ := (Box.new w k n s).up hb1
  have HM1 := Lib.hid (below_trans HB0.out hb1)
  clear hb1 C1
  go_wp2_with fail
  refine (C2.out _).mono ?_
  rintro e w2 ⟨rfl, hb2⟩
  have HM2 := Lib.hid (below_trans HM1.out hb2)
  clear hb2 c0 c1 c2 C2
  go_wp2_with fail
  refine (C3.out _ (HW.out.below HM2.out) (HX.out.below HM2.out) (tab_below HP.out HM2.out)).mono ?_
  rintro e w3 ⟨rfl, hb3⟩
  have HM3 := Lib.hid (below_trans HM2.out hb3)
  clear hb3 C3
  go_wp2_with fail
  refine (C4.out _).mono ?_
  rintro e w4 ⟨rfl, hb4⟩
  have HM4 := Lib.hid (below_trans (HM3.out.alloc HM3.out.size (.cells #[.int .i64 k3, .int .i64 n3, .string s3] 23)) hb4)
  obtain ⟨r0, r1, r2⟩ := ((Box.new w3 k3 n3 s3).up hb4).alloc (.cells #[.int .i64 k3, .int .i64 n3, .string s3] 23)
  obtain ⟨p0, p1, p2⟩ := Box.new w4 k3 n3 s3
  have HM5 := Lib.hid (HM4.out.alloc HM4.out.size (.cells #[.int .i64 k3, .int .i64 n3, .string s3] 23))
  clear hb4 C4
  go_wp2_with fail
  refine (HA.out _ (HW.out.below HM5.out)).mono ?_
  rintro e w5 ⟨rfl, hb5⟩
  have HB := Lib.hid (below_trans HM5.out hb5)
  clear hb5
  go_wp2
  go_ret
  exact ⟨rfl, HB.out⟩
end Go.Proofs.YtjfpkjpicalfmaaDoor.valuePrints
