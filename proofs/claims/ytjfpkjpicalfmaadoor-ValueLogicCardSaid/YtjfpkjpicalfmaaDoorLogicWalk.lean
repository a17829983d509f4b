/-
  THE WALK OF ValueLogic.
-/
import Derived.Test.YtjfpkjpicalfmaaDoorWalkR
import Derived.Test.YtjfpkjpicalfmaaDoorWalkM
import Derived.Test.YtjfpkjpicalfmaaDoorOpen
namespace Go.Proofs.YtjfpkjpicalfmaaDoor.valueLogic
open Go.RowKit Go.Sort
attribute [local go_sem high] run_eq23 run_neq23 run_eq9

theorem veq_refl (k n : Int) (s : ByteArray) : veq k n s k n s = true := veq_eq.2 ⟨rfl, rfl, rfl⟩

set_option maxRecDepth 100000 in
set_option maxHeartbeats 4000000 in
theorem walked (a b : V) (w : World) (ha : VOk a) (hb : VOk b) (hw : Sm w) :
    Calls Tryd.prog 5 #[a.agg, b.agg] w fun e w' => e = .returned (.bool true) ∧ Below w.heap.size w w' := by
  have H1 := Lib.hid (and_any a b ha.s hb.s)
  have H2 := Lib.hid (rand_any a b ha.s hb.s)
  have H3 := Lib.hid (or_any a b ha.s hb.s)
  have H4 := Lib.hid (ror_any a b ha.s hb.s)
  have H5 := Lib.hid (not_any a ha.s)
  have H6 := Lib.hid (rnot_any a ha.s)
  have HT := Lib.hid (fun (w' : World) (h : Below (w.heap.size + 2) (M2 w a b) w') => two_boxes h (Nat.le_refl _))
  have HA := Lib.hid (fun (W : World) (h : Sm W) => awake_any W h)
  have HZ : Hid ((M2 w a b).heap.size = w.heap.size + 2) := by show (M2 w a b).heap.size = w.heap.size + 2; simp [M2]
  have HM0 := Lib.hid (Below.refl (M2 w a b).heap.size (M2 w a b))
  have HW := Lib.hid hw
  generalize decV false a b = x at H1 H2
  generalize decV true a b = y at H3 H4
  generalize notV a = z at H5 H6
  generalize want 3 [a, b] = e1 at H1 H2 H3 H4
  generalize want 3 [a] = e2 at H5 H6
  clear ha hb hw
  unfold V.agg
  have hx := veq_refl x.k x.n x.s
  have hy := veq_refl y.k y.n y.s
  have hz := veq_refl z.k z.n z.s
  obtain ⟨xk, xn, xs⟩ := x
  obtain ⟨yk, yn, ys⟩ := y
  obtain ⟨zk, zn, zs⟩ := z
  generalize hM2 : M2 w a b = MM at HT HZ HM0
  have hM3 := hM2
  unfold M2 at hM3
  obtain ⟨k, n, s⟩ := a
  obtain ⟨k', n', s'⟩ := b
  simp only at H1 H2 H3 H4 H5 H6 HT hM3 hx hy hz ⊢
  have HMM := Lib.hid hM3
  clear hM2 hM3
  go_enter Tryd.func5, Tryd.ntmps5
  go_wp2_with fail
  refine (H1.out _).mono ?_
  rintro e w1 ⟨rfl, hb1⟩
  rw [HMM.out] at hb1
  have HM1 := Lib.hid hb1
  clear hb1 H1
  obtain ⟨⟨c0, c1, c2⟩, ⟨d0, d1, d2⟩, hbel, hz1⟩ := HT.out (w1.alloc (.cells #[.int .i64 xk, .int .i64 xn, .string xs] 23)) ((HM1.out.alloc HM1.out.size (.cells #[.int .i64 xk, .int .i64 xn, .string xs] 23)).mono (by rw [HZ.out]; exact Nat.le_refl _))
  go_wp2_with fail
  refine (H2.out _).mono ?_
  rintro e w2 ⟨rfl, hb2⟩
  have HM2 := Lib.hid (below_step HM1.out hb2)
  have R1 := Lib.hid ((Box.new w1 xk xn xs).up hb2)
  clear hb2 H2 c0 c1 c2 d0 d1 d2 hbel hz1
  obtain ⟨⟨c0, c1, c2⟩, ⟨d0, d1, d2⟩, hbel, hz2⟩ := HT.out (w2.alloc (.cells #[.int .i64 xk, .int .i64 xn, .string xs] 23)) ((HM2.out.alloc HM2.out.size (.cells #[.int .i64 xk, .int .i64 xn, .string xs] 23)).mono (by rw [HZ.out]; exact Nat.le_refl _))
  go_wp2_with fail
  refine (H3.out _).mono ?_
  rintro e w3 ⟨rfl, hb3⟩
  have HM3 := Lib.hid (below_step HM2.out hb3)
  have R2 := Lib.hid ((Box.new w2 xk xn xs).up hb3)
  replace R1 := Lib.hid ((R1.out.alloc _).up hb3)
  clear hb3 H3 c0 c1 c2 d0 d1 d2 hbel hz2
  obtain ⟨⟨c0, c1, c2⟩, ⟨d0, d1, d2⟩, hbel, hz3⟩ := HT.out (w3.alloc (.cells #[.int .i64 yk, .int .i64 yn, .string ys] 23)) ((HM3.out.alloc HM3.out.size (.cells #[.int .i64 yk, .int .i64 yn, .string ys] 23)).mono (by rw [HZ.out]; exact Nat.le_refl _))
  go_wp2_with fail
  refine (H4.out _).mono ?_
  rintro e w4 ⟨rfl, hb4⟩
  have HM4 := Lib.hid (below_step HM3.out hb4)
  have R3 := Lib.hid ((Box.new w3 yk yn ys).up hb4)
  replace R1 := Lib.hid ((R1.out.alloc _).up hb4)
  replace R2 := Lib.hid ((R2.out.alloc _).up hb4)
  clear hb4 H4 c0 c1 c2 d0 d1 d2 hbel hz3
  obtain ⟨⟨c0, c1, c2⟩, ⟨d0, d1, d2⟩, hbel, hz4⟩ := HT.out (w4.alloc (.cells #[.int .i64 yk, .int .i64 yn, .string ys] 23)) ((HM4.out.alloc HM4.out.size (.cells #[.int .i64 yk, .int .i64 yn, .string ys] 23)).mono (by rw [HZ.out]; exact Nat.le_refl _))
  go_wp2_with fail
  refine (H5.out _).mono ?_
  rintro e w5 ⟨rfl, hb5⟩
  have HM5 := Lib.hid (below_step HM4.out hb5)
  have R4 := Lib.hid ((Box.new w4 yk yn ys).up hb5)
  replace R1 := Lib.hid ((R1.out.alloc _).up hb5)
  replace R2 := Lib.hid ((R2.out.alloc _).up hb5)
  replace R3 := Lib.hid ((R3.out.alloc _).up hb5)
  clear hb5 H5 c0 c1 c2 d0 d1 d2 hbel hz4
  obtain ⟨⟨c0, c1, c2⟩, ⟨d0, d1, d2⟩, hbel, hz5⟩ := HT.out (w5.alloc (.cells #[.int .i64 zk, .int .i64 zn, .string zs] 23)) ((HM5.out.alloc HM5.out.size (.cells #[.int .i64 zk, .int .i64 zn, .string zs] 23)).mono (by rw [HZ.out]; exact Nat.le_refl _))
  go_wp2_with fail
  refine (H6.out _).mono ?_
  rintro e w6 ⟨rfl, hb6⟩
  have HM6 := Lib.hid (below_step HM5.out hb6)
  have R5 := Lib.hid ((Box.new w5 zk zn zs).up hb6)
  replace R1 := Lib.hid ((R1.out.alloc _).up hb6)
  replace R2 := Lib.hid ((R2.out.alloc _).up hb6)
  replace R3 := Lib.hid ((R3.out.alloc _).up hb6)
  replace R4 := Lib.hid ((R4.out.alloc _).up hb6)
  clear hb6 H6 c0 c1 c2 d0 d1 d2 hbel hz5
  obtain ⟨⟨c0, c1, c2⟩, ⟨d0, d1, d2⟩, hbel, hz6⟩ := HT.out (w6.alloc (.cells #[.int .i64 zk, .int .i64 zn, .string zs] 23)) ((HM6.out.alloc HM6.out.size (.cells #[.int .i64 zk, .int .i64 zn, .string zs] 23)).mono (by rw [HZ.out]; exact Nat.le_refl _))
  obtain ⟨r10, r11, r12⟩ := (R1.out.alloc (.cells #[.int .i64 zk, .int .i64 zn, .string zs] 23))
  obtain ⟨r20, r21, r22⟩ := (R2.out.alloc (.cells #[.int .i64 zk, .int .i64 zn, .string zs] 23))
  obtain ⟨r30, r31, r32⟩ := (R3.out.alloc (.cells #[.int .i64 zk, .int .i64 zn, .string zs] 23))
  obtain ⟨r40, r41, r42⟩ := (R4.out.alloc (.cells #[.int .i64 zk, .int .i64 zn, .string zs] 23))
  obtain ⟨r50, r51, r52⟩ := (R5.out.alloc (.cells #[.int .i64 zk, .int .i64 zn, .string zs] 23))
  obtain ⟨r60, r61, r62⟩ := Box.new w6 zk zn zs
  have HB7 := Lib.hid hbel
  clear hbel HT
  go_wp2_with fail
  refine (HA.out _ (HW.out.below HB7.out)).mono ?_
  rintro e w7 ⟨rfl, hb7⟩
  have HB8 := Lib.hid (below_trans HB7.out hb7)
  clear hb7
  go_wp2
  go_ret
  exact ⟨rfl, HB8.out⟩
end Go.Proofs.YtjfpkjpicalfmaaDoor.valueLogic
