/-
  THE WALK OF ValueRing.
-/
import Derived.Test.YtjfpkjpicalfmaaDoorRingMath
namespace Go.Proofs.YtjfpkjpicalfmaaDoor.valueRing
open Go.RowKit Go.Sort
attribute [local go_sem high] run_eq23 run_neq23 run_eq9

set_option maxRecDepth 100000 in
set_option maxHeartbeats 16000000 in
theorem walked (x y z : Int) (w : World) (ha : In64 x) (hb : In64 y) (hc : In64 z) (hw : Sm w) :
    Calls Tryd.prog 10 #[.int .i64 x, .int .i64 y, .int .i64 z] w fun e w' => e = .returned (.bool true) ∧ Below w.heap.size w w' := by
  have ns : ∀ n, (N n).s.size ≤ 9223372036854775807 := fun n => Nat.zero_le _
  have C1 := Lib.hid (vadd_any (N x) (N y) ha hb (ns x) (ns y))
  have C2 := Lib.hid (vadd_any (N y) (N x) hb ha (ns y) (ns x))
  have C3 := Lib.hid (vmul_any (N x) (N y) ha hb (ns x) (ns y))
  have C4 := Lib.hid (vmul_any (N y) (N x) hb ha (ns y) (ns x))
  have C5 := Lib.hid (vsub_any (ans 0 x y) (N y) (ans_n 0 x y) hb (ans_s 0 x y) (ns y))
  have C6 := Lib.hid (vdiv_any (N x) (N y) ha (ns x) (ns y))
  have C7 := Lib.hid (vmod_any (N x) (N y) ha (ns x) (ns y))
  have C8 := Lib.hid (vmul_any (ans 3 x y) (N y) (ans_n 3 x y) hb (ans_s 3 x y) (ns y))
  have C9 := Lib.hid (vadd_any (reckV 2 (ans 3 x y) (N y)) (ans 4 x y) (reck_n _ _ _) (ans_n 4 x y) (reck_s _ _ _) (ans_s 4 x y))
  have C10 := Lib.hid (vmul_any (N x) (N z) ha hc (ns x) (ns z))
  have C11 := Lib.hid (vmul_any (N y) (N z) hb hc (ns y) (ns z))
  have C12 := Lib.hid (vmul_any (ans 0 x y) (N z) (ans_n 0 x y) hc (ans_s 0 x y) (ns z))
  have C13 := Lib.hid (vadd_any (ans 2 x z) (ans 2 y z) (ans_n _ _ _) (ans_n _ _ _) (ans_s _ _ _) (ans_s _ _ _))
  rw [reckV_num, reckE_num] at C1 C2 C3 C4 C6 C7 C10 C11
  rw [(swap0 x y).1, (swap0 x y).2] at C2
  rw [(swap2 x y).1, (swap2 x y).2] at C4
  have F5 : Hid (calcE 0 x y = 0 → reckV 1 (ans 0 x y) (N y) = N x ∧ reckE 1 (ans 0 x y) (N y) = 0) := by
    show (calcE 0 x y = 0 → reckV 1 (ans 0 x y) (N y) = N x ∧ reckE 1 (ans 0 x y) (N y) = 0)
    exact fun h => back_sub ha h
  have F6 := Lib.hid (div_cases (y := y) ha)
  have F8 : Hid (y ≠ 0 → calcE 3 x y = 0 → reckE 2 (ans 3 x y) (N y) = 0 ∧ reckV 0 (reckV 2 (ans 3 x y) (N y)) (ans 4 x y) = N x ∧ reckE 0 (reckV 2 (ans 3 x y) (N y)) (ans 4 x y) = 0) := by
    show (y ≠ 0 → calcE 3 x y = 0 → reckE 2 (ans 3 x y) (N y) = 0 ∧ reckV 0 (reckV 2 (ans 3 x y) (N y)) (ans 4 x y) = N x ∧ reckE 0 (reckV 2 (ans 3 x y) (N y)) (ans 4 x y) = 0)
    exact fun h k => mul_back ha h k
  have F13 : Hid (calcE 0 x y = 0 → calcE 2 x z = 0 → calcE 2 y z = 0 → reckE 2 (ans 0 x y) (N z) = 0 → reckE 0 (ans 2 x z) (ans 2 y z) = 0 ∧ reckV 0 (ans 2 x z) (ans 2 y z) = reckV 2 (ans 0 x y) (N z)) := by
    show (calcE 0 x y = 0 → calcE 2 x z = 0 → calcE 2 y z = 0 → reckE 2 (ans 0 x y) (N z) = 0 → reckE 0 (ans 2 x z) (ans 2 y z) = 0 ∧ reckV 0 (ans 2 x z) (ans 2 y z) = reckV 2 (ans 0 x y) (N z))
    exact fun h1 h2 h3 h4 => distr h1 h2 h3 h4
  clear ns ha hb hc
  generalize reckV 1 (ans 0 x y) (N y) = x5 at C5 F5
  generalize reckE 1 (ans 0 x y) (N y) = e5 at C5 F5
  generalize reckV 0 (reckV 2 (ans 3 x y) (N y)) (ans 4 x y) = x9 at C9 F8
  generalize reckE 0 (reckV 2 (ans 3 x y) (N y)) (ans 4 x y) = e9 at C9 F8
  generalize reckV 2 (ans 3 x y) (N y) = x8 at C8 C9
  generalize reckE 2 (ans 3 x y) (N y) = e8 at C8 F8
  generalize reckV 0 (ans 2 x z) (ans 2 y z) = x13 at C13 F13
  generalize reckE 0 (ans 2 x z) (ans 2 y z) = e13 at C13 F13
  generalize reckV 2 (ans 0 x y) (N z) = x12 at C12 F13
  generalize reckE 2 (ans 0 x y) (N z) = e12 at C12 F13
  generalize ans 0 x y = x1 at C1 C2 C5 C12
  generalize ans 2 x y = x3 at C3 C4
  generalize ans 3 x y = x6 at C6 C8
  generalize ans 4 x y = x7 at C7 C9
  generalize ans 2 x z = x10 at C10 C13
  generalize ans 2 y z = x11 at C11 C13
  generalize calcE 0 x y = e1 at C1 C2 F5 F13
  generalize calcE 2 x y = e3 at C3 C4
  generalize calcE 3 x y = e6 at C6 F6 F8
  generalize calcE 4 x y = e7 at C7 F6
  generalize calcE 2 x z = e10 at C10 F13
  generalize calcE 2 y z = e11 at C11 F13
  obtain ⟨k1, n1, s1⟩ := x1
  obtain ⟨k3, n3, s3⟩ := x3
  obtain ⟨k5, n5, s5⟩ := x5
  obtain ⟨k6, n6, s6⟩ := x6
  obtain ⟨k7, n7, s7⟩ := x7
  obtain ⟨k8, n8, s8⟩ := x8
  obtain ⟨k9, n9, s9⟩ := x9
  obtain ⟨k10, n10, s10⟩ := x10
  obtain ⟨k11, n11, s11⟩ := x11
  obtain ⟨k12, n12, s12⟩ := x12
  obtain ⟨k13, n13, s13⟩ := x13
  simp only [N, V.mk.injEq] at C1 C2 C3 C4 C5 C6 C7 C8 C9 C10 C11 C12 C13 F5 F8 F13
  have HA := Lib.hid (fun (W : World) (h : Sm W) => awake_any W h)
  have HW := Lib.hid hw
  have q1 := veq_refl k1 n1 s1
  have q3 := veq_refl k3 n3 s3
  have qx := veq_refl 1 x ⟨#[]⟩
  have q12 := veq_refl k12 n12 s12
  clear hw
  go_enter Tryd.func10, Tryd.ntmps10
  go_wp2_with fail
  refine (num_any _ _).mono ?_
  rintro e u1 ⟨rfl, hb1⟩
  have HB1 := Lib.hid hb1
  clear hb1
  go_wp2_with fail
  refine (num_any _ _).mono ?_
  rintro e u2 ⟨rfl, hb2⟩
  have HB2 := Lib.hid (below_trans HB1.out hb2)
  clear hb2
  go_wp2_with fail
  refine (num_any _ _).mono ?_
  rintro e u3 ⟨rfl, hb3⟩
  have HB3 := Lib.hid (below_trans HB2.out hb3)
  clear hb3
  have HT := Lib.hid (fun (w' : World) (h : Below (P3 u3 ⟨1, x, ⟨#[]⟩⟩ ⟨1, y, ⟨#[]⟩⟩ ⟨1, z, ⟨#[]⟩⟩).heap.size (P3 u3 ⟨1, x, ⟨#[]⟩⟩ ⟨1, y, ⟨#[]⟩⟩ ⟨1, z, ⟨#[]⟩⟩) w') => p3_from HB3.out h)
  have HM0 := Lib.hid (Below.refl (P3 u3 ⟨1, x, ⟨#[]⟩⟩ ⟨1, y, ⟨#[]⟩⟩ ⟨1, z, ⟨#[]⟩⟩).heap.size (P3 u3 ⟨1, x, ⟨#[]⟩⟩ ⟨1, y, ⟨#[]⟩⟩ ⟨1, z, ⟨#[]⟩⟩))
  generalize hM2 : P3 u3 ⟨1, x, ⟨#[]⟩⟩ ⟨1, y, ⟨#[]⟩⟩ ⟨1, z, ⟨#[]⟩⟩ = MM at HT HM0
  have hM3 := hM2
  unfold P3 M2 at hM3
  simp only at HT hM3
  have HMM := Lib.hid hM3
  clear hM2 hM3
  go_wp2_with fail
  refine (C1.out _).mono ?_
  rintro e w1 ⟨rfl, hb1⟩
  rw [HMM.out] at hb1
  have HM1 := Lib.hid hb1
  clear hb1
  obtain ⟨⟨c0, c1, c2⟩, ⟨d0, d1, d2⟩, ⟨f0, f1, f2⟩, hbel⟩ := HT.out (w1.alloc (.cells #[.int .i64 k1, .int .i64 n1, .string s1] 23)) (HM1.out.alloc HM1.out.size (.cells #[.int .i64 k1, .int .i64 n1, .string s1] 23))
  obtain ⟨r1_0, r1_1, r1_2⟩ := Box.new w1 k1 n1 s1
  go_wp2_with fail
  refine (C2.out _).mono ?_
  rintro e w2 ⟨rfl, hb2⟩
  have HM2 := Lib.hid (below_step HM1.out hb2)
  have R1 := Lib.hid ((Box.new w1 k1 n1 s1).up hb2)
  clear hb2 hbel c0 c1 c2 d0 d1 d2 f0 f1 f2 r1_0 r1_1 r1_2
  obtain ⟨⟨c0, c1, c2⟩, ⟨d0, d1, d2⟩, ⟨f0, f1, f2⟩, hbel⟩ := HT.out (w2.alloc (.cells #[.int .i64 k1, .int .i64 n1, .string s1] 23)) (HM2.out.alloc HM2.out.size (.cells #[.int .i64 k1, .int .i64 n1, .string s1] 23))
  obtain ⟨r1_0, r1_1, r1_2⟩ := R1.out.alloc (.cells #[.int .i64 k1, .int .i64 n1, .string s1] 23)
  obtain ⟨r2_0, r2_1, r2_2⟩ := Box.new w2 k1 n1 s1
  go_wp2_with fail
  refine (C3.out _).mono ?_
  rintro e w3 ⟨rfl, hb3⟩
  have HM3 := Lib.hid (below_step HM2.out hb3)
  replace R1 := Lib.hid ((R1.out.alloc _).up hb3)
  have R2 := Lib.hid ((Box.new w2 k1 n1 s1).up hb3)
  clear hb3 hbel c0 c1 c2 d0 d1 d2 f0 f1 f2 r1_0 r1_1 r1_2 r2_0 r2_1 r2_2
  obtain ⟨⟨c0, c1, c2⟩, ⟨d0, d1, d2⟩, ⟨f0, f1, f2⟩, hbel⟩ := HT.out (w3.alloc (.cells #[.int .i64 k3, .int .i64 n3, .string s3] 23)) (HM3.out.alloc HM3.out.size (.cells #[.int .i64 k3, .int .i64 n3, .string s3] 23))
  obtain ⟨r1_0, r1_1, r1_2⟩ := R1.out.alloc (.cells #[.int .i64 k3, .int .i64 n3, .string s3] 23)
  obtain ⟨r2_0, r2_1, r2_2⟩ := R2.out.alloc (.cells #[.int .i64 k3, .int .i64 n3, .string s3] 23)
  obtain ⟨r3_0, r3_1, r3_2⟩ := Box.new w3 k3 n3 s3
  go_wp2_with fail
  refine (C4.out _).mono ?_
  rintro e w4 ⟨rfl, hb4⟩
  have HM4 := Lib.hid (below_step HM3.out hb4)
  replace R1 := Lib.hid ((R1.out.alloc _).up hb4)
  replace R2 := Lib.hid ((R2.out.alloc _).up hb4)
  have R3 := Lib.hid ((Box.new w3 k3 n3 s3).up hb4)
  clear hb4 hbel c0 c1 c2 d0 d1 d2 f0 f1 f2 r1_0 r1_1 r1_2 r2_0 r2_1 r2_2 r3_0 r3_1 r3_2
  obtain ⟨⟨c0, c1, c2⟩, ⟨d0, d1, d2⟩, ⟨f0, f1, f2⟩, hbel⟩ := HT.out (w4.alloc (.cells #[.int .i64 k3, .int .i64 n3, .string s3] 23)) (HM4.out.alloc HM4.out.size (.cells #[.int .i64 k3, .int .i64 n3, .string s3] 23))
  obtain ⟨r1_0, r1_1, r1_2⟩ := R1.out.alloc (.cells #[.int .i64 k3, .int .i64 n3, .string s3] 23)
  obtain ⟨r2_0, r2_1, r2_2⟩ := R2.out.alloc (.cells #[.int .i64 k3, .int .i64 n3, .string s3] 23)
  obtain ⟨r3_0, r3_1, r3_2⟩ := R3.out.alloc (.cells #[.int .i64 k3, .int .i64 n3, .string s3] 23)
  obtain ⟨r4_0, r4_1, r4_2⟩ := Box.new w4 k3 n3 s3
  by_cases hq1 : e1 = 0
  · obtain ⟨⟨rfl, hn5, rfl⟩, rfl⟩ := F5.out hq1
    replace hn5 := hn5.symm
    subst hn5
    have hq1c : (e1 == 0) = true := by simpa using hq1
    go_wp2_with fail
    refine (C5.out _).mono ?_
    rintro e w5 ⟨rfl, hb5⟩
    have HM5 := Lib.hid (below_step HM4.out hb5)
    replace R1 := Lib.hid ((R1.out.alloc _).up hb5)
    replace R2 := Lib.hid ((R2.out.alloc _).up hb5)
    replace R3 := Lib.hid ((R3.out.alloc _).up hb5)
    have R4 := Lib.hid ((Box.new w4 k3 n3 s3).up hb5)
    clear hb5 hbel c0 c1 c2 d0 d1 d2 f0 f1 f2 r1_0 r1_1 r1_2 r2_0 r2_1 r2_2 r3_0 r3_1 r3_2 r4_0 r4_1 r4_2
    obtain ⟨⟨c0, c1, c2⟩, ⟨d0, d1, d2⟩, ⟨f0, f1, f2⟩, hbel⟩ := HT.out (w5.alloc (.cells #[.int .i64 1, .int .i64 x, .string ⟨#[]⟩] 23)) (HM5.out.alloc HM5.out.size (.cells #[.int .i64 1, .int .i64 x, .string ⟨#[]⟩] 23))
    obtain ⟨r1_0, r1_1, r1_2⟩ := R1.out.alloc (.cells #[.int .i64 1, .int .i64 x, .string ⟨#[]⟩] 23)
    obtain ⟨r2_0, r2_1, r2_2⟩ := R2.out.alloc (.cells #[.int .i64 1, .int .i64 x, .string ⟨#[]⟩] 23)
    obtain ⟨r3_0, r3_1, r3_2⟩ := R3.out.alloc (.cells #[.int .i64 1, .int .i64 x, .string ⟨#[]⟩] 23)
    obtain ⟨r4_0, r4_1, r4_2⟩ := R4.out.alloc (.cells #[.int .i64 1, .int .i64 x, .string ⟨#[]⟩] 23)
    obtain ⟨r5_0, r5_1, r5_2⟩ := Box.new w5 1 x ⟨#[]⟩
    go_wp2_with fail
    refine (C6.out _).mono ?_
    rintro e w6 ⟨rfl, hb6⟩
    have HM6 := Lib.hid (below_step HM5.out hb6)
    replace R1 := Lib.hid ((R1.out.alloc _).up hb6)
    replace R2 := Lib.hid ((R2.out.alloc _).up hb6)
    replace R3 := Lib.hid ((R3.out.alloc _).up hb6)
    replace R4 := Lib.hid ((R4.out.alloc _).up hb6)
    have R5 := Lib.hid ((Box.new w5 1 x ⟨#[]⟩).up hb6)
    clear hb6 hbel c0 c1 c2 d0 d1 d2 f0 f1 f2 r1_0 r1_1 r1_2 r2_0 r2_1 r2_2 r3_0 r3_1 r3_2 r4_0 r4_1 r4_2 r5_0 r5_1 r5_2
    obtain ⟨⟨c0, c1, c2⟩, ⟨d0, d1, d2⟩, ⟨f0, f1, f2⟩, hbel⟩ := HT.out (w6.alloc (.cells #[.int .i64 k6, .int .i64 n6, .string s6] 23)) (HM6.out.alloc HM6.out.size (.cells #[.int .i64 k6, .int .i64 n6, .string s6] 23))
    obtain ⟨r1_0, r1_1, r1_2⟩ := R1.out.alloc (.cells #[.int .i64 k6, .int .i64 n6, .string s6] 23)
    obtain ⟨r2_0, r2_1, r2_2⟩ := R2.out.alloc (.cells #[.int .i64 k6, .int .i64 n6, .string s6] 23)
    obtain ⟨r3_0, r3_1, r3_2⟩ := R3.out.alloc (.cells #[.int .i64 k6, .int .i64 n6, .string s6] 23)
    obtain ⟨r4_0, r4_1, r4_2⟩ := R4.out.alloc (.cells #[.int .i64 k6, .int .i64 n6, .string s6] 23)
    obtain ⟨r5_0, r5_1, r5_2⟩ := R5.out.alloc (.cells #[.int .i64 k6, .int .i64 n6, .string s6] 23)
    obtain ⟨r6_0, r6_1, r6_2⟩ := Box.new w6 k6 n6 s6
    go_wp2_with fail
    refine (C7.out _).mono ?_
    rintro e w7 ⟨rfl, hb7⟩
    have HM7 := Lib.hid (below_step HM6.out hb7)
    replace R1 := Lib.hid ((R1.out.alloc _).up hb7)
    replace R2 := Lib.hid ((R2.out.alloc _).up hb7)
    replace R3 := Lib.hid ((R3.out.alloc _).up hb7)
    replace R4 := Lib.hid ((R4.out.alloc _).up hb7)
    replace R5 := Lib.hid ((R5.out.alloc _).up hb7)
    have R6 := Lib.hid ((Box.new w6 k6 n6 s6).up hb7)
    clear hb7 hbel c0 c1 c2 d0 d1 d2 f0 f1 f2 r1_0 r1_1 r1_2 r2_0 r2_1 r2_2 r3_0 r3_1 r3_2 r4_0 r4_1 r4_2 r5_0 r5_1 r5_2 r6_0 r6_1 r6_2
    obtain ⟨⟨c0, c1, c2⟩, ⟨d0, d1, d2⟩, ⟨f0, f1, f2⟩, hbel⟩ := HT.out (w7.alloc (.cells #[.int .i64 k7, .int .i64 n7, .string s7] 23)) (HM7.out.alloc HM7.out.size (.cells #[.int .i64 k7, .int .i64 n7, .string s7] 23))
    obtain ⟨r1_0, r1_1, r1_2⟩ := R1.out.alloc (.cells #[.int .i64 k7, .int .i64 n7, .string s7] 23)
    obtain ⟨r2_0, r2_1, r2_2⟩ := R2.out.alloc (.cells #[.int .i64 k7, .int .i64 n7, .string s7] 23)
    obtain ⟨r3_0, r3_1, r3_2⟩ := R3.out.alloc (.cells #[.int .i64 k7, .int .i64 n7, .string s7] 23)
    obtain ⟨r4_0, r4_1, r4_2⟩ := R4.out.alloc (.cells #[.int .i64 k7, .int .i64 n7, .string s7] 23)
    obtain ⟨r5_0, r5_1, r5_2⟩ := R5.out.alloc (.cells #[.int .i64 k7, .int .i64 n7, .string s7] 23)
    obtain ⟨r6_0, r6_1, r6_2⟩ := R6.out.alloc (.cells #[.int .i64 k7, .int .i64 n7, .string s7] 23)
    obtain ⟨r7_0, r7_1, r7_2⟩ := Box.new w7 k7 n7 s7
    rcases F6.out with ⟨hy, h6, h7⟩ | ⟨hy, h6, h7⟩ | ⟨hy, h6, h7⟩
    · have hyb : (y == 0) = true := by simpa using hy
      subst h6 h7
      clear hy
      go_wp2_with fail
      refine (C10.out _).mono ?_
      rintro e w8 ⟨rfl, hb8⟩
      have HM8 := Lib.hid (below_step HM7.out hb8)
      replace R1 := Lib.hid ((R1.out.alloc _).up hb8)
      replace R2 := Lib.hid ((R2.out.alloc _).up hb8)
      replace R3 := Lib.hid ((R3.out.alloc _).up hb8)
      replace R4 := Lib.hid ((R4.out.alloc _).up hb8)
      replace R5 := Lib.hid ((R5.out.alloc _).up hb8)
      replace R6 := Lib.hid ((R6.out.alloc _).up hb8)
      have R7 := Lib.hid ((Box.new w7 k7 n7 s7).up hb8)
      clear hb8 hbel c0 c1 c2 d0 d1 d2 f0 f1 f2 r1_0 r1_1 r1_2 r2_0 r2_1 r2_2 r3_0 r3_1 r3_2 r4_0 r4_1 r4_2 r5_0 r5_1 r5_2 r6_0 r6_1 r6_2 r7_0 r7_1 r7_2
      obtain ⟨⟨c0, c1, c2⟩, ⟨d0, d1, d2⟩, ⟨f0, f1, f2⟩, hbel⟩ := HT.out (w8.alloc (.cells #[.int .i64 k10, .int .i64 n10, .string s10] 23)) (HM8.out.alloc HM8.out.size (.cells #[.int .i64 k10, .int .i64 n10, .string s10] 23))
      obtain ⟨r1_0, r1_1, r1_2⟩ := R1.out.alloc (.cells #[.int .i64 k10, .int .i64 n10, .string s10] 23)
      obtain ⟨r2_0, r2_1, r2_2⟩ := R2.out.alloc (.cells #[.int .i64 k10, .int .i64 n10, .string s10] 23)
      obtain ⟨r3_0, r3_1, r3_2⟩ := R3.out.alloc (.cells #[.int .i64 k10, .int .i64 n10, .string s10] 23)
      obtain ⟨r4_0, r4_1, r4_2⟩ := R4.out.alloc (.cells #[.int .i64 k10, .int .i64 n10, .string s10] 23)
      obtain ⟨r5_0, r5_1, r5_2⟩ := R5.out.alloc (.cells #[.int .i64 k10, .int .i64 n10, .string s10] 23)
      obtain ⟨r6_0, r6_1, r6_2⟩ := R6.out.alloc (.cells #[.int .i64 k10, .int .i64 n10, .string s10] 23)
      obtain ⟨r7_0, r7_1, r7_2⟩ := R7.out.alloc (.cells #[.int .i64 k10, .int .i64 n10, .string s10] 23)
      obtain ⟨r8_0, r8_1, r8_2⟩ := Box.new w8 k10 n10 s10
      go_wp2_with fail
      refine (C11.out _).mono ?_
      rintro e w9 ⟨rfl, hb9⟩
      have HM9 := Lib.hid (below_step HM8.out hb9)
      replace R1 := Lib.hid ((R1.out.alloc _).up hb9)
      replace R2 := Lib.hid ((R2.out.alloc _).up hb9)
      replace R3 := Lib.hid ((R3.out.alloc _).up hb9)
      replace R4 := Lib.hid ((R4.out.alloc _).up hb9)
      replace R5 := Lib.hid ((R5.out.alloc _).up hb9)
      replace R6 := Lib.hid ((R6.out.alloc _).up hb9)
      replace R7 := Lib.hid ((R7.out.alloc _).up hb9)
      have R8 := Lib.hid ((Box.new w8 k10 n10 s10).up hb9)
      clear hb9 hbel c0 c1 c2 d0 d1 d2 f0 f1 f2 r1_0 r1_1 r1_2 r2_0 r2_1 r2_2 r3_0 r3_1 r3_2 r4_0 r4_1 r4_2 r5_0 r5_1 r5_2 r6_0 r6_1 r6_2 r7_0 r7_1 r7_2 r8_0 r8_1 r8_2
      obtain ⟨⟨c0, c1, c2⟩, ⟨d0, d1, d2⟩, ⟨f0, f1, f2⟩, hbel⟩ := HT.out (w9.alloc (.cells #[.int .i64 k11, .int .i64 n11, .string s11] 23)) (HM9.out.alloc HM9.out.size (.cells #[.int .i64 k11, .int .i64 n11, .string s11] 23))
      obtain ⟨r1_0, r1_1, r1_2⟩ := R1.out.alloc (.cells #[.int .i64 k11, .int .i64 n11, .string s11] 23)
      obtain ⟨r2_0, r2_1, r2_2⟩ := R2.out.alloc (.cells #[.int .i64 k11, .int .i64 n11, .string s11] 23)
      obtain ⟨r3_0, r3_1, r3_2⟩ := R3.out.alloc (.cells #[.int .i64 k11, .int .i64 n11, .string s11] 23)
      obtain ⟨r4_0, r4_1, r4_2⟩ := R4.out.alloc (.cells #[.int .i64 k11, .int .i64 n11, .string s11] 23)
      obtain ⟨r5_0, r5_1, r5_2⟩ := R5.out.alloc (.cells #[.int .i64 k11, .int .i64 n11, .string s11] 23)
      obtain ⟨r6_0, r6_1, r6_2⟩ := R6.out.alloc (.cells #[.int .i64 k11, .int .i64 n11, .string s11] 23)
      obtain ⟨r7_0, r7_1, r7_2⟩ := R7.out.alloc (.cells #[.int .i64 k11, .int .i64 n11, .string s11] 23)
      obtain ⟨r8_0, r8_1, r8_2⟩ := R8.out.alloc (.cells #[.int .i64 k11, .int .i64 n11, .string s11] 23)
      obtain ⟨r9_0, r9_1, r9_2⟩ := Box.new w9 k11 n11 s11
      go_wp2_with fail
      refine (C12.out _).mono ?_
      rintro e w10 ⟨rfl, hb10⟩
      have HM10 := Lib.hid (below_step HM9.out hb10)
      replace R1 := Lib.hid ((R1.out.alloc _).up hb10)
      replace R2 := Lib.hid ((R2.out.alloc _).up hb10)
      replace R3 := Lib.hid ((R3.out.alloc _).up hb10)
      replace R4 := Lib.hid ((R4.out.alloc _).up hb10)
      replace R5 := Lib.hid ((R5.out.alloc _).up hb10)
      replace R6 := Lib.hid ((R6.out.alloc _).up hb10)
      replace R7 := Lib.hid ((R7.out.alloc _).up hb10)
      replace R8 := Lib.hid ((R8.out.alloc _).up hb10)
      have R9 := Lib.hid ((Box.new w9 k11 n11 s11).up hb10)
      clear hb10 hbel c0 c1 c2 d0 d1 d2 f0 f1 f2 r1_0 r1_1 r1_2 r2_0 r2_1 r2_2 r3_0 r3_1 r3_2 r4_0 r4_1 r4_2 r5_0 r5_1 r5_2 r6_0 r6_1 r6_2 r7_0 r7_1 r7_2 r8_0 r8_1 r8_2 r9_0 r9_1 r9_2
      obtain ⟨⟨c0, c1, c2⟩, ⟨d0, d1, d2⟩, ⟨f0, f1, f2⟩, hbel⟩ := HT.out (w10.alloc (.cells #[.int .i64 k12, .int .i64 n12, .string s12] 23)) (HM10.out.alloc HM10.out.size (.cells #[.int .i64 k12, .int .i64 n12, .string s12] 23))
      obtain ⟨r1_0, r1_1, r1_2⟩ := R1.out.alloc (.cells #[.int .i64 k12, .int .i64 n12, .string s12] 23)
      obtain ⟨r2_0, r2_1, r2_2⟩ := R2.out.alloc (.cells #[.int .i64 k12, .int .i64 n12, .string s12] 23)
      obtain ⟨r3_0, r3_1, r3_2⟩ := R3.out.alloc (.cells #[.int .i64 k12, .int .i64 n12, .string s12] 23)
      obtain ⟨r4_0, r4_1, r4_2⟩ := R4.out.alloc (.cells #[.int .i64 k12, .int .i64 n12, .string s12] 23)
      obtain ⟨r5_0, r5_1, r5_2⟩ := R5.out.alloc (.cells #[.int .i64 k12, .int .i64 n12, .string s12] 23)
      obtain ⟨r6_0, r6_1, r6_2⟩ := R6.out.alloc (.cells #[.int .i64 k12, .int .i64 n12, .string s12] 23)
      obtain ⟨r7_0, r7_1, r7_2⟩ := R7.out.alloc (.cells #[.int .i64 k12, .int .i64 n12, .string s12] 23)
      obtain ⟨r8_0, r8_1, r8_2⟩ := R8.out.alloc (.cells #[.int .i64 k12, .int .i64 n12, .string s12] 23)
      obtain ⟨r9_0, r9_1, r9_2⟩ := R9.out.alloc (.cells #[.int .i64 k12, .int .i64 n12, .string s12] 23)
      obtain ⟨r10_0, r10_1, r10_2⟩ := Box.new w10 k12 n12 s12
      go_wp2_with fail
      refine (C13.out _).mono ?_
      rintro e w11 ⟨rfl, hb11⟩
      have HM11 := Lib.hid (below_step HM10.out hb11)
      replace R1 := Lib.hid ((R1.out.alloc _).up hb11)
      replace R2 := Lib.hid ((R2.out.alloc _).up hb11)
      replace R3 := Lib.hid ((R3.out.alloc _).up hb11)
      replace R4 := Lib.hid ((R4.out.alloc _).up hb11)
      replace R5 := Lib.hid ((R5.out.alloc _).up hb11)
      replace R6 := Lib.hid ((R6.out.alloc _).up hb11)
      replace R7 := Lib.hid ((R7.out.alloc _).up hb11)
      replace R8 := Lib.hid ((R8.out.alloc _).up hb11)
      replace R9 := Lib.hid ((R9.out.alloc _).up hb11)
      have R10 := Lib.hid ((Box.new w10 k12 n12 s12).up hb11)
      clear hb11 hbel c0 c1 c2 d0 d1 d2 f0 f1 f2 r1_0 r1_1 r1_2 r2_0 r2_1 r2_2 r3_0 r3_1 r3_2 r4_0 r4_1 r4_2 r5_0 r5_1 r5_2 r6_0 r6_1 r6_2 r7_0 r7_1 r7_2 r8_0 r8_1 r8_2 r9_0 r9_1 r9_2 r10_0 r10_1 r10_2
      obtain ⟨⟨c0, c1, c2⟩, ⟨d0, d1, d2⟩, ⟨f0, f1, f2⟩, hbel⟩ := HT.out (w11.alloc (.cells #[.int .i64 k13, .int .i64 n13, .string s13] 23)) (HM11.out.alloc HM11.out.size (.cells #[.int .i64 k13, .int .i64 n13, .string s13] 23))
      obtain ⟨r1_0, r1_1, r1_2⟩ := R1.out.alloc (.cells #[.int .i64 k13, .int .i64 n13, .string s13] 23)
      obtain ⟨r2_0, r2_1, r2_2⟩ := R2.out.alloc (.cells #[.int .i64 k13, .int .i64 n13, .string s13] 23)
      obtain ⟨r3_0, r3_1, r3_2⟩ := R3.out.alloc (.cells #[.int .i64 k13, .int .i64 n13, .string s13] 23)
      obtain ⟨r4_0, r4_1, r4_2⟩ := R4.out.alloc (.cells #[.int .i64 k13, .int .i64 n13, .string s13] 23)
      obtain ⟨r5_0, r5_1, r5_2⟩ := R5.out.alloc (.cells #[.int .i64 k13, .int .i64 n13, .string s13] 23)
      obtain ⟨r6_0, r6_1, r6_2⟩ := R6.out.alloc (.cells #[.int .i64 k13, .int .i64 n13, .string s13] 23)
      obtain ⟨r7_0, r7_1, r7_2⟩ := R7.out.alloc (.cells #[.int .i64 k13, .int .i64 n13, .string s13] 23)
      obtain ⟨r8_0, r8_1, r8_2⟩ := R8.out.alloc (.cells #[.int .i64 k13, .int .i64 n13, .string s13] 23)
      obtain ⟨r9_0, r9_1, r9_2⟩ := R9.out.alloc (.cells #[.int .i64 k13, .int .i64 n13, .string s13] 23)
      obtain ⟨r10_0, r10_1, r10_2⟩ := R10.out.alloc (.cells #[.int .i64 k13, .int .i64 n13, .string s13] 23)
      obtain ⟨r11_0, r11_1, r11_2⟩ := Box.new w11 k13 n13 s13
      by_cases hq10 : e10 = 0
      · skip
        by_cases hq11 : e11 = 0
        · skip
          by_cases hq12 : e12 = 0
          · skip
            obtain ⟨rfl, rfl, rfl, rfl⟩ := F13.out (by assumption) hq10 hq11 hq12
            subst hq10 hq11 hq12
            go_wp2_with fail
            refine (HA.out _ (HW.out.below hbel)).mono ?_
            rintro e w12 ⟨rfl, hb12⟩
            have HB := Lib.hid (below_trans hbel hb12)
            clear hb12 hbel
            go_wp2
            go_ret
            exact ⟨rfl, HB.out⟩
          · have h12 : (e12 == 0) = false := by simpa using hq12
            go_wp2_with fail
            refine (HA.out _ (HW.out.below hbel)).mono ?_
            rintro e w12 ⟨rfl, hb12⟩
            have HB := Lib.hid (below_trans hbel hb12)
            clear hb12 hbel
            go_wp2
            go_ret
            exact ⟨rfl, HB.out⟩
        · have h11 : (e11 == 0) = false := by simpa using hq11
          go_wp2_with fail
          refine (HA.out _ (HW.out.below hbel)).mono ?_
          rintro e w12 ⟨rfl, hb12⟩
          have HB := Lib.hid (below_trans hbel hb12)
          clear hb12 hbel
          go_wp2
          go_ret
          exact ⟨rfl, HB.out⟩
      · have h10 : (e10 == 0) = false := by simpa using hq10
        go_wp2_with fail
        refine (HA.out _ (HW.out.below hbel)).mono ?_
        rintro e w12 ⟨rfl, hb12⟩
        have HB := Lib.hid (below_trans hbel hb12)
        clear hb12 hbel
        go_wp2
        go_ret
        exact ⟨rfl, HB.out⟩
    · have hyb : (y == 0) = false := by simpa using hy
      subst h6 h7
      clear hy
      go_wp2_with fail
      refine (C10.out _).mono ?_
      rintro e w8 ⟨rfl, hb8⟩
      have HM8 := Lib.hid (below_step HM7.out hb8)
      replace R1 := Lib.hid ((R1.out.alloc _).up hb8)
      replace R2 := Lib.hid ((R2.out.alloc _).up hb8)
      replace R3 := Lib.hid ((R3.out.alloc _).up hb8)
      replace R4 := Lib.hid ((R4.out.alloc _).up hb8)
      replace R5 := Lib.hid ((R5.out.alloc _).up hb8)
      replace R6 := Lib.hid ((R6.out.alloc _).up hb8)
      have R7 := Lib.hid ((Box.new w7 k7 n7 s7).up hb8)
      clear hb8 hbel c0 c1 c2 d0 d1 d2 f0 f1 f2 r1_0 r1_1 r1_2 r2_0 r2_1 r2_2 r3_0 r3_1 r3_2 r4_0 r4_1 r4_2 r5_0 r5_1 r5_2 r6_0 r6_1 r6_2 r7_0 r7_1 r7_2
      obtain ⟨⟨c0, c1, c2⟩, ⟨d0, d1, d2⟩, ⟨f0, f1, f2⟩, hbel⟩ := HT.out (w8.alloc (.cells #[.int .i64 k10, .int .i64 n10, .string s10] 23)) (HM8.out.alloc HM8.out.size (.cells #[.int .i64 k10, .int .i64 n10, .string s10] 23))
      obtain ⟨r1_0, r1_1, r1_2⟩ := R1.out.alloc (.cells #[.int .i64 k10, .int .i64 n10, .string s10] 23)
      obtain ⟨r2_0, r2_1, r2_2⟩ := R2.out.alloc (.cells #[.int .i64 k10, .int .i64 n10, .string s10] 23)
      obtain ⟨r3_0, r3_1, r3_2⟩ := R3.out.alloc (.cells #[.int .i64 k10, .int .i64 n10, .string s10] 23)
      obtain ⟨r4_0, r4_1, r4_2⟩ := R4.out.alloc (.cells #[.int .i64 k10, .int .i64 n10, .string s10] 23)
      obtain ⟨r5_0, r5_1, r5_2⟩ := R5.out.alloc (.cells #[.int .i64 k10, .int .i64 n10, .string s10] 23)
      obtain ⟨r6_0, r6_1, r6_2⟩ := R6.out.alloc (.cells #[.int .i64 k10, .int .i64 n10, .string s10] 23)
      obtain ⟨r7_0, r7_1, r7_2⟩ := R7.out.alloc (.cells #[.int .i64 k10, .int .i64 n10, .string s10] 23)
      obtain ⟨r8_0, r8_1, r8_2⟩ := Box.new w8 k10 n10 s10
      go_wp2_with fail
      refine (C11.out _).mono ?_
      rintro e w9 ⟨rfl, hb9⟩
      have HM9 := Lib.hid (below_step HM8.out hb9)
      replace R1 := Lib.hid ((R1.out.alloc _).up hb9)
      replace R2 := Lib.hid ((R2.out.alloc _).up hb9)
      replace R3 := Lib.hid ((R3.out.alloc _).up hb9)
      replace R4 := Lib.hid ((R4.out.alloc _).up hb9)
      replace R5 := Lib.hid ((R5.out.alloc _).up hb9)
      replace R6 := Lib.hid ((R6.out.alloc _).up hb9)
      replace R7 := Lib.hid ((R7.out.alloc _).up hb9)
      have R8 := Lib.hid ((Box.new w8 k10 n10 s10).up hb9)
      clear hb9 hbel c0 c1 c2 d0 d1 d2 f0 f1 f2 r1_0 r1_1 r1_2 r2_0 r2_1 r2_2 r3_0 r3_1 r3_2 r4_0 r4_1 r4_2 r5_0 r5_1 r5_2 r6_0 r6_1 r6_2 r7_0 r7_1 r7_2 r8_0 r8_1 r8_2
      obtain ⟨⟨c0, c1, c2⟩, ⟨d0, d1, d2⟩, ⟨f0, f1, f2⟩, hbel⟩ := HT.out (w9.alloc (.cells #[.int .i64 k11, .int .i64 n11, .string s11] 23)) (HM9.out.alloc HM9.out.size (.cells #[.int .i64 k11, .int .i64 n11, .string s11] 23))
      obtain ⟨r1_0, r1_1, r1_2⟩ := R1.out.alloc (.cells #[.int .i64 k11, .int .i64 n11, .string s11] 23)
      obtain ⟨r2_0, r2_1, r2_2⟩ := R2.out.alloc (.cells #[.int .i64 k11, .int .i64 n11, .string s11] 23)
      obtain ⟨r3_0, r3_1, r3_2⟩ := R3.out.alloc (.cells #[.int .i64 k11, .int .i64 n11, .string s11] 23)
      obtain ⟨r4_0, r4_1, r4_2⟩ := R4.out.alloc (.cells #[.int .i64 k11, .int .i64 n11, .string s11] 23)
      obtain ⟨r5_0, r5_1, r5_2⟩ := R5.out.alloc (.cells #[.int .i64 k11, .int .i64 n11, .string s11] 23)
      obtain ⟨r6_0, r6_1, r6_2⟩ := R6.out.alloc (.cells #[.int .i64 k11, .int .i64 n11, .string s11] 23)
      obtain ⟨r7_0, r7_1, r7_2⟩ := R7.out.alloc (.cells #[.int .i64 k11, .int .i64 n11, .string s11] 23)
      obtain ⟨r8_0, r8_1, r8_2⟩ := R8.out.alloc (.cells #[.int .i64 k11, .int .i64 n11, .string s11] 23)
      obtain ⟨r9_0, r9_1, r9_2⟩ := Box.new w9 k11 n11 s11
      go_wp2_with fail
      refine (C12.out _).mono ?_
      rintro e w10 ⟨rfl, hb10⟩
      have HM10 := Lib.hid (below_step HM9.out hb10)
      replace R1 := Lib.hid ((R1.out.alloc _).up hb10)
      replace R2 := Lib.hid ((R2.out.alloc _).up hb10)
      replace R3 := Lib.hid ((R3.out.alloc _).up hb10)
      replace R4 := Lib.hid ((R4.out.alloc _).up hb10)
      replace R5 := Lib.hid ((R5.out.alloc _).up hb10)
      replace R6 := Lib.hid ((R6.out.alloc _).up hb10)
      replace R7 := Lib.hid ((R7.out.alloc _).up hb10)
      replace R8 := Lib.hid ((R8.out.alloc _).up hb10)
      have R9 := Lib.hid ((Box.new w9 k11 n11 s11).up hb10)
      clear hb10 hbel c0 c1 c2 d0 d1 d2 f0 f1 f2 r1_0 r1_1 r1_2 r2_0 r2_1 r2_2 r3_0 r3_1 r3_2 r4_0 r4_1 r4_2 r5_0 r5_1 r5_2 r6_0 r6_1 r6_2 r7_0 r7_1 r7_2 r8_0 r8_1 r8_2 r9_0 r9_1 r9_2
      obtain ⟨⟨c0, c1, c2⟩, ⟨d0, d1, d2⟩, ⟨f0, f1, f2⟩, hbel⟩ := HT.out (w10.alloc (.cells #[.int .i64 k12, .int .i64 n12, .string s12] 23)) (HM10.out.alloc HM10.out.size (.cells #[.int .i64 k12, .int .i64 n12, .string s12] 23))
      obtain ⟨r1_0, r1_1, r1_2⟩ := R1.out.alloc (.cells #[.int .i64 k12, .int .i64 n12, .string s12] 23)
      obtain ⟨r2_0, r2_1, r2_2⟩ := R2.out.alloc (.cells #[.int .i64 k12, .int .i64 n12, .string s12] 23)
      obtain ⟨r3_0, r3_1, r3_2⟩ := R3.out.alloc (.cells #[.int .i64 k12, .int .i64 n12, .string s12] 23)
      obtain ⟨r4_0, r4_1, r4_2⟩ := R4.out.alloc (.cells #[.int .i64 k12, .int .i64 n12, .string s12] 23)
      obtain ⟨r5_0, r5_1, r5_2⟩ := R5.out.alloc (.cells #[.int .i64 k12, .int .i64 n12, .string s12] 23)
      obtain ⟨r6_0, r6_1, r6_2⟩ := R6.out.alloc (.cells #[.int .i64 k12, .int .i64 n12, .string s12] 23)
      obtain ⟨r7_0, r7_1, r7_2⟩ := R7.out.alloc (.cells #[.int .i64 k12, .int .i64 n12, .string s12] 23)
      obtain ⟨r8_0, r8_1, r8_2⟩ := R8.out.alloc (.cells #[.int .i64 k12, .int .i64 n12, .string s12] 23)
      obtain ⟨r9_0, r9_1, r9_2⟩ := R9.out.alloc (.cells #[.int .i64 k12, .int .i64 n12, .string s12] 23)
      obtain ⟨r10_0, r10_1, r10_2⟩ := Box.new w10 k12 n12 s12
      go_wp2_with fail
      refine (C13.out _).mono ?_
      rintro e w11 ⟨rfl, hb11⟩
      have HM11 := Lib.hid (below_step HM10.out hb11)
      replace R1 := Lib.hid ((R1.out.alloc _).up hb11)
      replace R2 := Lib.hid ((R2.out.alloc _).up hb11)
      replace R3 := Lib.hid ((R3.out.alloc _).up hb11)
      replace R4 := Lib.hid ((R4.out.alloc _).up hb11)
      replace R5 := Lib.hid ((R5.out.alloc _).up hb11)
      replace R6 := Lib.hid ((R6.out.alloc _).up hb11)
      replace R7 := Lib.hid ((R7.out.alloc _).up hb11)
      replace R8 := Lib.hid ((R8.out.alloc _).up hb11)
      replace R9 := Lib.hid ((R9.out.alloc _).up hb11)
      have R10 := Lib.hid ((Box.new w10 k12 n12 s12).up hb11)
      clear hb11 hbel c0 c1 c2 d0 d1 d2 f0 f1 f2 r1_0 r1_1 r1_2 r2_0 r2_1 r2_2 r3_0 r3_1 r3_2 r4_0 r4_1 r4_2 r5_0 r5_1 r5_2 r6_0 r6_1 r6_2 r7_0 r7_1 r7_2 r8_0 r8_1 r8_2 r9_0 r9_1 r9_2 r10_0 r10_1 r10_2
      obtain ⟨⟨c0, c1, c2⟩, ⟨d0, d1, d2⟩, ⟨f0, f1, f2⟩, hbel⟩ := HT.out (w11.alloc (.cells #[.int .i64 k13, .int .i64 n13, .string s13] 23)) (HM11.out.alloc HM11.out.size (.cells #[.int .i64 k13, .int .i64 n13, .string s13] 23))
      obtain ⟨r1_0, r1_1, r1_2⟩ := R1.out.alloc (.cells #[.int .i64 k13, .int .i64 n13, .string s13] 23)
      obtain ⟨r2_0, r2_1, r2_2⟩ := R2.out.alloc (.cells #[.int .i64 k13, .int .i64 n13, .string s13] 23)
      obtain ⟨r3_0, r3_1, r3_2⟩ := R3.out.alloc (.cells #[.int .i64 k13, .int .i64 n13, .string s13] 23)
      obtain ⟨r4_0, r4_1, r4_2⟩ := R4.out.alloc (.cells #[.int .i64 k13, .int .i64 n13, .string s13] 23)
      obtain ⟨r5_0, r5_1, r5_2⟩ := R5.out.alloc (.cells #[.int .i64 k13, .int .i64 n13, .string s13] 23)
      obtain ⟨r6_0, r6_1, r6_2⟩ := R6.out.alloc (.cells #[.int .i64 k13, .int .i64 n13, .string s13] 23)
      obtain ⟨r7_0, r7_1, r7_2⟩ := R7.out.alloc (.cells #[.int .i64 k13, .int .i64 n13, .string s13] 23)
      obtain ⟨r8_0, r8_1, r8_2⟩ := R8.out.alloc (.cells #[.int .i64 k13, .int .i64 n13, .string s13] 23)
      obtain ⟨r9_0, r9_1, r9_2⟩ := R9.out.alloc (.cells #[.int .i64 k13, .int .i64 n13, .string s13] 23)
      obtain ⟨r10_0, r10_1, r10_2⟩ := R10.out.alloc (.cells #[.int .i64 k13, .int .i64 n13, .string s13] 23)
      obtain ⟨r11_0, r11_1, r11_2⟩ := Box.new w11 k13 n13 s13
      by_cases hq10 : e10 = 0
      · skip
        by_cases hq11 : e11 = 0
        · skip
          by_cases hq12 : e12 = 0
          · skip
            obtain ⟨rfl, rfl, rfl, rfl⟩ := F13.out (by assumption) hq10 hq11 hq12
            subst hq10 hq11 hq12
            go_wp2_with fail
            refine (HA.out _ (HW.out.below hbel)).mono ?_
            rintro e w12 ⟨rfl, hb12⟩
            have HB := Lib.hid (below_trans hbel hb12)
            clear hb12 hbel
            go_wp2
            go_ret
            exact ⟨rfl, HB.out⟩
          · have h12 : (e12 == 0) = false := by simpa using hq12
            go_wp2_with fail
            refine (HA.out _ (HW.out.below hbel)).mono ?_
            rintro e w12 ⟨rfl, hb12⟩
            have HB := Lib.hid (below_trans hbel hb12)
            clear hb12 hbel
            go_wp2
            go_ret
            exact ⟨rfl, HB.out⟩
        · have h11 : (e11 == 0) = false := by simpa using hq11
          go_wp2_with fail
          refine (HA.out _ (HW.out.below hbel)).mono ?_
          rintro e w12 ⟨rfl, hb12⟩
          have HB := Lib.hid (below_trans hbel hb12)
          clear hb12 hbel
          go_wp2
          go_ret
          exact ⟨rfl, HB.out⟩
      · have h10 : (e10 == 0) = false := by simpa using hq10
        go_wp2_with fail
        refine (HA.out _ (HW.out.below hbel)).mono ?_
        rintro e w12 ⟨rfl, hb12⟩
        have HB := Lib.hid (below_trans hbel hb12)
        clear hb12 hbel
        go_wp2
        go_ret
        exact ⟨rfl, HB.out⟩
    · have hyb : (y == 0) = false := by simpa using hy
      obtain ⟨rfl, ⟨rfl, hn9, rfl⟩, rfl⟩ := F8.out hy h6
      replace hn9 := hn9.symm
      subst hn9
      subst h6 h7
      clear hy
      go_wp2_with fail
      refine (C8.out _).mono ?_
      rintro e w8 ⟨rfl, hb8⟩
      have HM8 := Lib.hid (below_step HM7.out hb8)
      replace R1 := Lib.hid ((R1.out.alloc _).up hb8)
      replace R2 := Lib.hid ((R2.out.alloc _).up hb8)
      replace R3 := Lib.hid ((R3.out.alloc _).up hb8)
      replace R4 := Lib.hid ((R4.out.alloc _).up hb8)
      replace R5 := Lib.hid ((R5.out.alloc _).up hb8)
      replace R6 := Lib.hid ((R6.out.alloc _).up hb8)
      have R7 := Lib.hid ((Box.new w7 k7 n7 s7).up hb8)
      clear hb8 hbel c0 c1 c2 d0 d1 d2 f0 f1 f2 r1_0 r1_1 r1_2 r2_0 r2_1 r2_2 r3_0 r3_1 r3_2 r4_0 r4_1 r4_2 r5_0 r5_1 r5_2 r6_0 r6_1 r6_2 r7_0 r7_1 r7_2
      obtain ⟨⟨c0, c1, c2⟩, ⟨d0, d1, d2⟩, ⟨f0, f1, f2⟩, hbel⟩ := HT.out (w8.alloc (.cells #[.int .i64 k8, .int .i64 n8, .string s8] 23)) (HM8.out.alloc HM8.out.size (.cells #[.int .i64 k8, .int .i64 n8, .string s8] 23))
      obtain ⟨r1_0, r1_1, r1_2⟩ := R1.out.alloc (.cells #[.int .i64 k8, .int .i64 n8, .string s8] 23)
      obtain ⟨r2_0, r2_1, r2_2⟩ := R2.out.alloc (.cells #[.int .i64 k8, .int .i64 n8, .string s8] 23)
      obtain ⟨r3_0, r3_1, r3_2⟩ := R3.out.alloc (.cells #[.int .i64 k8, .int .i64 n8, .string s8] 23)
      obtain ⟨r4_0, r4_1, r4_2⟩ := R4.out.alloc (.cells #[.int .i64 k8, .int .i64 n8, .string s8] 23)
      obtain ⟨r5_0, r5_1, r5_2⟩ := R5.out.alloc (.cells #[.int .i64 k8, .int .i64 n8, .string s8] 23)
      obtain ⟨r6_0, r6_1, r6_2⟩ := R6.out.alloc (.cells #[.int .i64 k8, .int .i64 n8, .string s8] 23)
      obtain ⟨r7_0, r7_1, r7_2⟩ := R7.out.alloc (.cells #[.int .i64 k8, .int .i64 n8, .string s8] 23)
      obtain ⟨r8_0, r8_1, r8_2⟩ := Box.new w8 k8 n8 s8
      go_wp2_with fail
      refine (C9.out _).mono ?_
      rintro e w9 ⟨rfl, hb9⟩
      have HM9 := Lib.hid (below_step HM8.out hb9)
      replace R1 := Lib.hid ((R1.out.alloc _).up hb9)
      replace R2 := Lib.hid ((R2.out.alloc _).up hb9)
      replace R3 := Lib.hid ((R3.out.alloc _).up hb9)
      replace R4 := Lib.hid ((R4.out.alloc _).up hb9)
      replace R5 := Lib.hid ((R5.out.alloc _).up hb9)
      replace R6 := Lib.hid ((R6.out.alloc _).up hb9)
      replace R7 := Lib.hid ((R7.out.alloc _).up hb9)
      have R8 := Lib.hid ((Box.new w8 k8 n8 s8).up hb9)
      clear hb9 hbel c0 c1 c2 d0 d1 d2 f0 f1 f2 r1_0 r1_1 r1_2 r2_0 r2_1 r2_2 r3_0 r3_1 r3_2 r4_0 r4_1 r4_2 r5_0 r5_1 r5_2 r6_0 r6_1 r6_2 r7_0 r7_1 r7_2 r8_0 r8_1 r8_2
      obtain ⟨⟨c0, c1, c2⟩, ⟨d0, d1, d2⟩, ⟨f0, f1, f2⟩, hbel⟩ := HT.out (w9.alloc (.cells #[.int .i64 1, .int .i64 x, .string ⟨#[]⟩] 23)) (HM9.out.alloc HM9.out.size (.cells #[.int .i64 1, .int .i64 x, .string ⟨#[]⟩] 23))
      obtain ⟨r1_0, r1_1, r1_2⟩ := R1.out.alloc (.cells #[.int .i64 1, .int .i64 x, .string ⟨#[]⟩] 23)
      obtain ⟨r2_0, r2_1, r2_2⟩ := R2.out.alloc (.cells #[.int .i64 1, .int .i64 x, .string ⟨#[]⟩] 23)
      obtain ⟨r3_0, r3_1, r3_2⟩ := R3.out.alloc (.cells #[.int .i64 1, .int .i64 x, .string ⟨#[]⟩] 23)
      obtain ⟨r4_0, r4_1, r4_2⟩ := R4.out.alloc (.cells #[.int .i64 1, .int .i64 x, .string ⟨#[]⟩] 23)
      obtain ⟨r5_0, r5_1, r5_2⟩ := R5.out.alloc (.cells #[.int .i64 1, .int .i64 x, .string ⟨#[]⟩] 23)
      obtain ⟨r6_0, r6_1, r6_2⟩ := R6.out.alloc (.cells #[.int .i64 1, .int .i64 x, .string ⟨#[]⟩] 23)
      obtain ⟨r7_0, r7_1, r7_2⟩ := R7.out.alloc (.cells #[.int .i64 1, .int .i64 x, .string ⟨#[]⟩] 23)
      obtain ⟨r8_0, r8_1, r8_2⟩ := R8.out.alloc (.cells #[.int .i64 1, .int .i64 x, .string ⟨#[]⟩] 23)
      obtain ⟨r9_0, r9_1, r9_2⟩ := Box.new w9 1 x ⟨#[]⟩
      go_wp2_with fail
      refine (C10.out _).mono ?_
      rintro e w10 ⟨rfl, hb10⟩
      have HM10 := Lib.hid (below_step HM9.out hb10)
      replace R1 := Lib.hid ((R1.out.alloc _).up hb10)
      replace R2 := Lib.hid ((R2.out.alloc _).up hb10)
      replace R3 := Lib.hid ((R3.out.alloc _).up hb10)
      replace R4 := Lib.hid ((R4.out.alloc _).up hb10)
      replace R5 := Lib.hid ((R5.out.alloc _).up hb10)
      replace R6 := Lib.hid ((R6.out.alloc _).up hb10)
      replace R7 := Lib.hid ((R7.out.alloc _).up hb10)
      replace R8 := Lib.hid ((R8.out.alloc _).up hb10)
      have R9 := Lib.hid ((Box.new w9 1 x ⟨#[]⟩).up hb10)
      clear hb10 hbel c0 c1 c2 d0 d1 d2 f0 f1 f2 r1_0 r1_1 r1_2 r2_0 r2_1 r2_2 r3_0 r3_1 r3_2 r4_0 r4_1 r4_2 r5_0 r5_1 r5_2 r6_0 r6_1 r6_2 r7_0 r7_1 r7_2 r8_0 r8_1 r8_2 r9_0 r9_1 r9_2
      obtain ⟨⟨c0, c1, c2⟩, ⟨d0, d1, d2⟩, ⟨f0, f1, f2⟩, hbel⟩ := HT.out (w10.alloc (.cells #[.int .i64 k10, .int .i64 n10, .string s10] 23)) (HM10.out.alloc HM10.out.size (.cells #[.int .i64 k10, .int .i64 n10, .string s10] 23))
      obtain ⟨r1_0, r1_1, r1_2⟩ := R1.out.alloc (.cells #[.int .i64 k10, .int .i64 n10, .string s10] 23)
      obtain ⟨r2_0, r2_1, r2_2⟩ := R2.out.alloc (.cells #[.int .i64 k10, .int .i64 n10, .string s10] 23)
      obtain ⟨r3_0, r3_1, r3_2⟩ := R3.out.alloc (.cells #[.int .i64 k10, .int .i64 n10, .string s10] 23)
      obtain ⟨r4_0, r4_1, r4_2⟩ := R4.out.alloc (.cells #[.int .i64 k10, .int .i64 n10, .string s10] 23)
      obtain ⟨r5_0, r5_1, r5_2⟩ := R5.out.alloc (.cells #[.int .i64 k10, .int .i64 n10, .string s10] 23)
      obtain ⟨r6_0, r6_1, r6_2⟩ := R6.out.alloc (.cells #[.int .i64 k10, .int .i64 n10, .string s10] 23)
      obtain ⟨r7_0, r7_1, r7_2⟩ := R7.out.alloc (.cells #[.int .i64 k10, .int .i64 n10, .string s10] 23)
      obtain ⟨r8_0, r8_1, r8_2⟩ := R8.out.alloc (.cells #[.int .i64 k10, .int .i64 n10, .string s10] 23)
      obtain ⟨r9_0, r9_1, r9_2⟩ := R9.out.alloc (.cells #[.int .i64 k10, .int .i64 n10, .string s10] 23)
      obtain ⟨r10_0, r10_1, r10_2⟩ := Box.new w10 k10 n10 s10
      go_wp2_with fail
      refine (C11.out _).mono ?_
      rintro e w11 ⟨rfl, hb11⟩
      have HM11 := Lib.hid (below_step HM10.out hb11)
      replace R1 := Lib.hid ((R1.out.alloc _).up hb11)
      replace R2 := Lib.hid ((R2.out.alloc _).up hb11)
      replace R3 := Lib.hid ((R3.out.alloc _).up hb11)
      replace R4 := Lib.hid ((R4.out.alloc _).up hb11)
      replace R5 := Lib.hid ((R5.out.alloc _).up hb11)
      replace R6 := Lib.hid ((R6.out.alloc _).up hb11)
      replace R7 := Lib.hid ((R7.out.alloc _).up hb11)
      replace R8 := Lib.hid ((R8.out.alloc _).up hb11)
      replace R9 := Lib.hid ((R9.out.alloc _).up hb11)
      have R10 := Lib.hid ((Box.new w10 k10 n10 s10).up hb11)
      clear hb11 hbel c0 c1 c2 d0 d1 d2 f0 f1 f2 r1_0 r1_1 r1_2 r2_0 r2_1 r2_2 r3_0 r3_1 r3_2 r4_0 r4_1 r4_2 r5_0 r5_1 r5_2 r6_0 r6_1 r6_2 r7_0 r7_1 r7_2 r8_0 r8_1 r8_2 r9_0 r9_1 r9_2 r10_0 r10_1 r10_2
      obtain ⟨⟨c0, c1, c2⟩, ⟨d0, d1, d2⟩, ⟨f0, f1, f2⟩, hbel⟩ := HT.out (w11.alloc (.cells #[.int .i64 k11, .int .i64 n11, .string s11] 23)) (HM11.out.alloc HM11.out.size (.cells #[.int .i64 k11, .int .i64 n11, .string s11] 23))
      obtain ⟨r1_0, r1_1, r1_2⟩ := R1.out.alloc (.cells #[.int .i64 k11, .int .i64 n11, .string s11] 23)
      obtain ⟨r2_0, r2_1, r2_2⟩ := R2.out.alloc (.cells #[.int .i64 k11, .int .i64 n11, .string s11] 23)
      obtain ⟨r3_0, r3_1, r3_2⟩ := R3.out.alloc (.cells #[.int .i64 k11, .int .i64 n11, .string s11] 23)
      obtain ⟨r4_0, r4_1, r4_2⟩ := R4.out.alloc (.cells #[.int .i64 k11, .int .i64 n11, .string s11] 23)
      obtain ⟨r5_0, r5_1, r5_2⟩ := R5.out.alloc (.cells #[.int .i64 k11, .int .i64 n11, .string s11] 23)
      obtain ⟨r6_0, r6_1, r6_2⟩ := R6.out.alloc (.cells #[.int .i64 k11, .int .i64 n11, .string s11] 23)
      obtain ⟨r7_0, r7_1, r7_2⟩ := R7.out.alloc (.cells #[.int .i64 k11, .int .i64 n11, .string s11] 23)
      obtain ⟨r8_0, r8_1, r8_2⟩ := R8.out.alloc (.cells #[.int .i64 k11, .int .i64 n11, .string s11] 23)
      obtain ⟨r9_0, r9_1, r9_2⟩ := R9.out.alloc (.cells #[.int .i64 k11, .int .i64 n11, .string s11] 23)
      obtain ⟨r10_0, r10_1, r10_2⟩ := R10.out.alloc (.cells #[.int .i64 k11, .int .i64 n11, .string s11] 23)
      obtain ⟨r11_0, r11_1, r11_2⟩ := Box.new w11 k11 n11 s11
      go_wp2_with fail
      refine (C12.out _).mono ?_
      rintro e w12 ⟨rfl, hb12⟩
      have HM12 := Lib.hid (below_step HM11.out hb12)
      replace R1 := Lib.hid ((R1.out.alloc _).up hb12)
      replace R2 := Lib.hid ((R2.out.alloc _).up hb12)
      replace R3 := Lib.hid ((R3.out.alloc _).up hb12)
      replace R4 := Lib.hid ((R4.out.alloc _).up hb12)
      replace R5 := Lib.hid ((R5.out.alloc _).up hb12)
      replace R6 := Lib.hid ((R6.out.alloc _).up hb12)
      replace R7 := Lib.hid ((R7.out.alloc _).up hb12)
      replace R8 := Lib.hid ((R8.out.alloc _).up hb12)
      replace R9 := Lib.hid ((R9.out.alloc _).up hb12)
      replace R10 := Lib.hid ((R10.out.alloc _).up hb12)
      have R11 := Lib.hid ((Box.new w11 k11 n11 s11).up hb12)
      clear hb12 hbel c0 c1 c2 d0 d1 d2 f0 f1 f2 r1_0 r1_1 r1_2 r2_0 r2_1 r2_2 r3_0 r3_1 r3_2 r4_0 r4_1 r4_2 r5_0 r5_1 r5_2 r6_0 r6_1 r6_2 r7_0 r7_1 r7_2 r8_0 r8_1 r8_2 r9_0 r9_1 r9_2 r10_0 r10_1 r10_2 r11_0 r11_1 r11_2
      obtain ⟨⟨c0, c1, c2⟩, ⟨d0, d1, d2⟩, ⟨f0, f1, f2⟩, hbel⟩ := HT.out (w12.alloc (.cells #[.int .i64 k12, .int .i64 n12, .string s12] 23)) (HM12.out.alloc HM12.out.size (.cells #[.int .i64 k12, .int .i64 n12, .string s12] 23))
      obtain ⟨r1_0, r1_1, r1_2⟩ := R1.out.alloc (.cells #[.int .i64 k12, .int .i64 n12, .string s12] 23)
      obtain ⟨r2_0, r2_1, r2_2⟩ := R2.out.alloc (.cells #[.int .i64 k12, .int .i64 n12, .string s12] 23)
      obtain ⟨r3_0, r3_1, r3_2⟩ := R3.out.alloc (.cells #[.int .i64 k12, .int .i64 n12, .string s12] 23)
      obtain ⟨r4_0, r4_1, r4_2⟩ := R4.out.alloc (.cells #[.int .i64 k12, .int .i64 n12, .string s12] 23)
      obtain ⟨r5_0, r5_1, r5_2⟩ := R5.out.alloc (.cells #[.int .i64 k12, .int .i64 n12, .string s12] 23)
      obtain ⟨r6_0, r6_1, r6_2⟩ := R6.out.alloc (.cells #[.int .i64 k12, .int .i64 n12, .string s12] 23)
      obtain ⟨r7_0, r7_1, r7_2⟩ := R7.out.alloc (.cells #[.int .i64 k12, .int .i64 n12, .string s12] 23)
      obtain ⟨r8_0, r8_1, r8_2⟩ := R8.out.alloc (.cells #[.int .i64 k12, .int .i64 n12, .string s12] 23)
      obtain ⟨r9_0, r9_1, r9_2⟩ := R9.out.alloc (.cells #[.int .i64 k12, .int .i64 n12, .string s12] 23)
      obtain ⟨r10_0, r10_1, r10_2⟩ := R10.out.alloc (.cells #[.int .i64 k12, .int .i64 n12, .string s12] 23)
      obtain ⟨r11_0, r11_1, r11_2⟩ := R11.out.alloc (.cells #[.int .i64 k12, .int .i64 n12, .string s12] 23)
      obtain ⟨r12_0, r12_1, r12_2⟩ := Box.new w12 k12 n12 s12
      go_wp2_with fail
      refine (C13.out _).mono ?_
      rintro e w13 ⟨rfl, hb13⟩
      have HM13 := Lib.hid (below_step HM12.out hb13)
      replace R1 := Lib.hid ((R1.out.alloc _).up hb13)
      replace R2 := Lib.hid ((R2.out.alloc _).up hb13)
      replace R3 := Lib.hid ((R3.out.alloc _).up hb13)
      replace R4 := Lib.hid ((R4.out.alloc _).up hb13)
      replace R5 := Lib.hid ((R5.out.alloc _).up hb13)
      replace R6 := Lib.hid ((R6.out.alloc _).up hb13)
      replace R7 := Lib.hid ((R7.out.alloc _).up hb13)
      replace R8 := Lib.hid ((R8.out.alloc _).up hb13)
      replace R9 := Lib.hid ((R9.out.alloc _).up hb13)
      replace R10 := Lib.hid ((R10.out.alloc _).up hb13)
      replace R11 := Lib.hid ((R11.out.alloc _).up hb13)
      have R12 := Lib.hid ((Box.new w12 k12 n12 s12).up hb13)
      clear hb13 hbel c0 c1 c2 d0 d1 d2 f0 f1 f2 r1_0 r1_1 r1_2 r2_0 r2_1 r2_2 r3_0 r3_1 r3_2 r4_0 r4_1 r4_2 r5_0 r5_1 r5_2 r6_0 r6_1 r6_2 r7_0 r7_1 r7_2 r8_0 r8_1 r8_2 r9_0 r9_1 r9_2 r10_0 r10_1 r10_2 r11_0 r11_1 r11_2 r12_0 r12_1 r12_2
      obtain ⟨⟨c0, c1, c2⟩, ⟨d0, d1, d2⟩, ⟨f0, f1, f2⟩, hbel⟩ := HT.out (w13.alloc (.cells #[.int .i64 k13, .int .i64 n13, .string s13] 23)) (HM13.out.alloc HM13.out.size (.cells #[.int .i64 k13, .int .i64 n13, .string s13] 23))
      obtain ⟨r1_0, r1_1, r1_2⟩ := R1.out.alloc (.cells #[.int .i64 k13, .int .i64 n13, .string s13] 23)
      obtain ⟨r2_0, r2_1, r2_2⟩ := R2.out.alloc (.cells #[.int .i64 k13, .int .i64 n13, .string s13] 23)
      obtain ⟨r3_0, r3_1, r3_2⟩ := R3.out.alloc (.cells #[.int .i64 k13, .int .i64 n13, .string s13] 23)
      obtain ⟨r4_0, r4_1, r4_2⟩ := R4.out.alloc (.cells #[.int .i64 k13, .int .i64 n13, .string s13] 23)
      obtain ⟨r5_0, r5_1, r5_2⟩ := R5.out.alloc (.cells #[.int .i64 k13, .int .i64 n13, .string s13] 23)
      obtain ⟨r6_0, r6_1, r6_2⟩ := R6.out.alloc (.cells #[.int .i64 k13, .int .i64 n13, .string s13] 23)
      obtain ⟨r7_0, r7_1, r7_2⟩ := R7.out.alloc (.cells #[.int .i64 k13, .int .i64 n13, .string s13] 23)
      obtain ⟨r8_0, r8_1, r8_2⟩ := R8.out.alloc (.cells #[.int .i64 k13, .int .i64 n13, .string s13] 23)
      obtain ⟨r9_0, r9_1, r9_2⟩ := R9.out.alloc (.cells #[.int .i64 k13, .int .i64 n13, .string s13] 23)
      obtain ⟨r10_0, r10_1, r10_2⟩ := R10.out.alloc (.cells #[.int .i64 k13, .int .i64 n13, .string s13] 23)
      obtain ⟨r11_0, r11_1, r11_2⟩ := R11.out.alloc (.cells #[.int .i64 k13, .int .i64 n13, .string s13] 23)
      obtain ⟨r12_0, r12_1, r12_2⟩ := R12.out.alloc (.cells #[.int .i64 k13, .int .i64 n13, .string s13] 23)
      obtain ⟨r13_0, r13_1, r13_2⟩ := Box.new w13 k13 n13 s13
      by_cases hq10 : e10 = 0
      · skip
        by_cases hq11 : e11 = 0
        · skip
          by_cases hq12 : e12 = 0
          · skip
            obtain ⟨rfl, rfl, rfl, rfl⟩ := F13.out (by assumption) hq10 hq11 hq12
            subst hq10 hq11 hq12
            go_wp2_with fail
            refine (HA.out _ (HW.out.below hbel)).mono ?_
            rintro e w14 ⟨rfl, hb14⟩
            have HB := Lib.hid (below_trans hbel hb14)
            clear hb14 hbel
            go_wp2
            go_ret
            exact ⟨rfl, HB.out⟩
          · have h12 : (e12 == 0) = false := by simpa using hq12
            go_wp2_with fail
            refine (HA.out _ (HW.out.below hbel)).mono ?_
            rintro e w14 ⟨rfl, hb14⟩
            have HB := Lib.hid (below_trans hbel hb14)
            clear hb14 hbel
            go_wp2
            go_ret
            exact ⟨rfl, HB.out⟩
        · have h11 : (e11 == 0) = false := by simpa using hq11
          go_wp2_with fail
          refine (HA.out _ (HW.out.below hbel)).mono ?_
          rintro e w14 ⟨rfl, hb14⟩
          have HB := Lib.hid (below_trans hbel hb14)
          clear hb14 hbel
          go_wp2
          go_ret
          exact ⟨rfl, HB.out⟩
      · have h10 : (e10 == 0) = false := by simpa using hq10
        go_wp2_with fail
        refine (HA.out _ (HW.out.below hbel)).mono ?_
        rintro e w14 ⟨rfl, hb14⟩
        have HB := Lib.hid (below_trans hbel hb14)
        clear hb14 hbel
        go_wp2
        go_ret
        exact ⟨rfl, HB.out⟩
  · have h1 : (e1 == 0) = false := by simpa using hq1
    go_wp2_with fail
    refine (C6.out _).mono ?_
    rintro e w5 ⟨rfl, hb5⟩
    have HM5 := Lib.hid (below_step HM4.out hb5)
    replace R1 := Lib.hid ((R1.out.alloc _).up hb5)
    replace R2 := Lib.hid ((R2.out.alloc _).up hb5)
    replace R3 := Lib.hid ((R3.out.alloc _).up hb5)
    have R4 := Lib.hid ((Box.new w4 k3 n3 s3).up hb5)
    clear hb5 hbel c0 c1 c2 d0 d1 d2 f0 f1 f2 r1_0 r1_1 r1_2 r2_0 r2_1 r2_2 r3_0 r3_1 r3_2 r4_0 r4_1 r4_2
    obtain ⟨⟨c0, c1, c2⟩, ⟨d0, d1, d2⟩, ⟨f0, f1, f2⟩, hbel⟩ := HT.out (w5.alloc (.cells #[.int .i64 k6, .int .i64 n6, .string s6] 23)) (HM5.out.alloc HM5.out.size (.cells #[.int .i64 k6, .int .i64 n6, .string s6] 23))
    obtain ⟨r1_0, r1_1, r1_2⟩ := R1.out.alloc (.cells #[.int .i64 k6, .int .i64 n6, .string s6] 23)
    obtain ⟨r2_0, r2_1, r2_2⟩ := R2.out.alloc (.cells #[.int .i64 k6, .int .i64 n6, .string s6] 23)
    obtain ⟨r3_0, r3_1, r3_2⟩ := R3.out.alloc (.cells #[.int .i64 k6, .int .i64 n6, .string s6] 23)
    obtain ⟨r4_0, r4_1, r4_2⟩ := R4.out.alloc (.cells #[.int .i64 k6, .int .i64 n6, .string s6] 23)
    obtain ⟨r5_0, r5_1, r5_2⟩ := Box.new w5 k6 n6 s6
    go_wp2_with fail
    refine (C7.out _).mono ?_
    rintro e w6 ⟨rfl, hb6⟩
    have HM6 := Lib.hid (below_step HM5.out hb6)
    replace R1 := Lib.hid ((R1.out.alloc _).up hb6)
    replace R2 := Lib.hid ((R2.out.alloc _).up hb6)
    replace R3 := Lib.hid ((R3.out.alloc _).up hb6)
    replace R4 := Lib.hid ((R4.out.alloc _).up hb6)
    have R5 := Lib.hid ((Box.new w5 k6 n6 s6).up hb6)
    clear hb6 hbel c0 c1 c2 d0 d1 d2 f0 f1 f2 r1_0 r1_1 r1_2 r2_0 r2_1 r2_2 r3_0 r3_1 r3_2 r4_0 r4_1 r4_2 r5_0 r5_1 r5_2
    obtain ⟨⟨c0, c1, c2⟩, ⟨d0, d1, d2⟩, ⟨f0, f1, f2⟩, hbel⟩ := HT.out (w6.alloc (.cells #[.int .i64 k7, .int .i64 n7, .string s7] 23)) (HM6.out.alloc HM6.out.size (.cells #[.int .i64 k7, .int .i64 n7, .string s7] 23))
    obtain ⟨r1_0, r1_1, r1_2⟩ := R1.out.alloc (.cells #[.int .i64 k7, .int .i64 n7, .string s7] 23)
    obtain ⟨r2_0, r2_1, r2_2⟩ := R2.out.alloc (.cells #[.int .i64 k7, .int .i64 n7, .string s7] 23)
    obtain ⟨r3_0, r3_1, r3_2⟩ := R3.out.alloc (.cells #[.int .i64 k7, .int .i64 n7, .string s7] 23)
    obtain ⟨r4_0, r4_1, r4_2⟩ := R4.out.alloc (.cells #[.int .i64 k7, .int .i64 n7, .string s7] 23)
    obtain ⟨r5_0, r5_1, r5_2⟩ := R5.out.alloc (.cells #[.int .i64 k7, .int .i64 n7, .string s7] 23)
    obtain ⟨r6_0, r6_1, r6_2⟩ := Box.new w6 k7 n7 s7
    rcases F6.out with ⟨hy, h6, h7⟩ | ⟨hy, h6, h7⟩ | ⟨hy, h6, h7⟩
    · have hyb : (y == 0) = true := by simpa using hy
      subst h6 h7
      clear hy
      go_wp2_with fail
      refine (C10.out _).mono ?_
      rintro e w7 ⟨rfl, hb7⟩
      have HM7 := Lib.hid (below_step HM6.out hb7)
      replace R1 := Lib.hid ((R1.out.alloc _).up hb7)
      replace R2 := Lib.hid ((R2.out.alloc _).up hb7)
      replace R3 := Lib.hid ((R3.out.alloc _).up hb7)
      replace R4 := Lib.hid ((R4.out.alloc _).up hb7)
      replace R5 := Lib.hid ((R5.out.alloc _).up hb7)
      have R6 := Lib.hid ((Box.new w6 k7 n7 s7).up hb7)
      clear hb7 hbel c0 c1 c2 d0 d1 d2 f0 f1 f2 r1_0 r1_1 r1_2 r2_0 r2_1 r2_2 r3_0 r3_1 r3_2 r4_0 r4_1 r4_2 r5_0 r5_1 r5_2 r6_0 r6_1 r6_2
      obtain ⟨⟨c0, c1, c2⟩, ⟨d0, d1, d2⟩, ⟨f0, f1, f2⟩, hbel⟩ := HT.out (w7.alloc (.cells #[.int .i64 k10, .int .i64 n10, .string s10] 23)) (HM7.out.alloc HM7.out.size (.cells #[.int .i64 k10, .int .i64 n10, .string s10] 23))
      obtain ⟨r1_0, r1_1, r1_2⟩ := R1.out.alloc (.cells #[.int .i64 k10, .int .i64 n10, .string s10] 23)
      obtain ⟨r2_0, r2_1, r2_2⟩ := R2.out.alloc (.cells #[.int .i64 k10, .int .i64 n10, .string s10] 23)
      obtain ⟨r3_0, r3_1, r3_2⟩ := R3.out.alloc (.cells #[.int .i64 k10, .int .i64 n10, .string s10] 23)
      obtain ⟨r4_0, r4_1, r4_2⟩ := R4.out.alloc (.cells #[.int .i64 k10, .int .i64 n10, .string s10] 23)
      obtain ⟨r5_0, r5_1, r5_2⟩ := R5.out.alloc (.cells #[.int .i64 k10, .int .i64 n10, .string s10] 23)
      obtain ⟨r6_0, r6_1, r6_2⟩ := R6.out.alloc (.cells #[.int .i64 k10, .int .i64 n10, .string s10] 23)
      obtain ⟨r7_0, r7_1, r7_2⟩ := Box.new w7 k10 n10 s10
      go_wp2_with fail
      refine (C11.out _).mono ?_
      rintro e w8 ⟨rfl, hb8⟩
      have HM8 := Lib.hid (below_step HM7.out hb8)
      replace R1 := Lib.hid ((R1.out.alloc _).up hb8)
      replace R2 := Lib.hid ((R2.out.alloc _).up hb8)
      replace R3 := Lib.hid ((R3.out.alloc _).up hb8)
      replace R4 := Lib.hid ((R4.out.alloc _).up hb8)
      replace R5 := Lib.hid ((R5.out.alloc _).up hb8)
      replace R6 := Lib.hid ((R6.out.alloc _).up hb8)
      have R7 := Lib.hid ((Box.new w7 k10 n10 s10).up hb8)
      clear hb8 hbel c0 c1 c2 d0 d1 d2 f0 f1 f2 r1_0 r1_1 r1_2 r2_0 r2_1 r2_2 r3_0 r3_1 r3_2 r4_0 r4_1 r4_2 r5_0 r5_1 r5_2 r6_0 r6_1 r6_2 r7_0 r7_1 r7_2
      obtain ⟨⟨c0, c1, c2⟩, ⟨d0, d1, d2⟩, ⟨f0, f1, f2⟩, hbel⟩ := HT.out (w8.alloc (.cells #[.int .i64 k11, .int .i64 n11, .string s11] 23)) (HM8.out.alloc HM8.out.size (.cells #[.int .i64 k11, .int .i64 n11, .string s11] 23))
      obtain ⟨r1_0, r1_1, r1_2⟩ := R1.out.alloc (.cells #[.int .i64 k11, .int .i64 n11, .string s11] 23)
      obtain ⟨r2_0, r2_1, r2_2⟩ := R2.out.alloc (.cells #[.int .i64 k11, .int .i64 n11, .string s11] 23)
      obtain ⟨r3_0, r3_1, r3_2⟩ := R3.out.alloc (.cells #[.int .i64 k11, .int .i64 n11, .string s11] 23)
      obtain ⟨r4_0, r4_1, r4_2⟩ := R4.out.alloc (.cells #[.int .i64 k11, .int .i64 n11, .string s11] 23)
      obtain ⟨r5_0, r5_1, r5_2⟩ := R5.out.alloc (.cells #[.int .i64 k11, .int .i64 n11, .string s11] 23)
      obtain ⟨r6_0, r6_1, r6_2⟩ := R6.out.alloc (.cells #[.int .i64 k11, .int .i64 n11, .string s11] 23)
      obtain ⟨r7_0, r7_1, r7_2⟩ := R7.out.alloc (.cells #[.int .i64 k11, .int .i64 n11, .string s11] 23)
      obtain ⟨r8_0, r8_1, r8_2⟩ := Box.new w8 k11 n11 s11
      go_wp2_with fail
      refine (C12.out _).mono ?_
      rintro e w9 ⟨rfl, hb9⟩
      have HM9 := Lib.hid (below_step HM8.out hb9)
      replace R1 := Lib.hid ((R1.out.alloc _).up hb9)
      replace R2 := Lib.hid ((R2.out.alloc _).up hb9)
      replace R3 := Lib.hid ((R3.out.alloc _).up hb9)
      replace R4 := Lib.hid ((R4.out.alloc _).up hb9)
      replace R5 := Lib.hid ((R5.out.alloc _).up hb9)
      replace R6 := Lib.hid ((R6.out.alloc _).up hb9)
      replace R7 := Lib.hid ((R7.out.alloc _).up hb9)
      have R8 := Lib.hid ((Box.new w8 k11 n11 s11).up hb9)
      clear hb9 hbel c0 c1 c2 d0 d1 d2 f0 f1 f2 r1_0 r1_1 r1_2 r2_0 r2_1 r2_2 r3_0 r3_1 r3_2 r4_0 r4_1 r4_2 r5_0 r5_1 r5_2 r6_0 r6_1 r6_2 r7_0 r7_1 r7_2 r8_0 r8_1 r8_2
      obtain ⟨⟨c0, c1, c2⟩, ⟨d0, d1, d2⟩, ⟨f0, f1, f2⟩, hbel⟩ := HT.out (w9.alloc (.cells #[.int .i64 k12, .int .i64 n12, .string s12] 23)) (HM9.out.alloc HM9.out.size (.cells #[.int .i64 k12, .int .i64 n12, .string s12] 23))
      obtain ⟨r1_0, r1_1, r1_2⟩ := R1.out.alloc (.cells #[.int .i64 k12, .int .i64 n12, .string s12] 23)
      obtain ⟨r2_0, r2_1, r2_2⟩ := R2.out.alloc (.cells #[.int .i64 k12, .int .i64 n12, .string s12] 23)
      obtain ⟨r3_0, r3_1, r3_2⟩ := R3.out.alloc (.cells #[.int .i64 k12, .int .i64 n12, .string s12] 23)
      obtain ⟨r4_0, r4_1, r4_2⟩ := R4.out.alloc (.cells #[.int .i64 k12, .int .i64 n12, .string s12] 23)
      obtain ⟨r5_0, r5_1, r5_2⟩ := R5.out.alloc (.cells #[.int .i64 k12, .int .i64 n12, .string s12] 23)
      obtain ⟨r6_0, r6_1, r6_2⟩ := R6.out.alloc (.cells #[.int .i64 k12, .int .i64 n12, .string s12] 23)
      obtain ⟨r7_0, r7_1, r7_2⟩ := R7.out.alloc (.cells #[.int .i64 k12, .int .i64 n12, .string s12] 23)
      obtain ⟨r8_0, r8_1, r8_2⟩ := R8.out.alloc (.cells #[.int .i64 k12, .int .i64 n12, .string s12] 23)
      obtain ⟨r9_0, r9_1, r9_2⟩ := Box.new w9 k12 n12 s12
      go_wp2_with fail
      refine (C13.out _).mono ?_
      rintro e w10 ⟨rfl, hb10⟩
      have HM10 := Lib.hid (below_step HM9.out hb10)
      replace R1 := Lib.hid ((R1.out.alloc _).up hb10)
      replace R2 := Lib.hid ((R2.out.alloc _).up hb10)
      replace R3 := Lib.hid ((R3.out.alloc _).up hb10)
      replace R4 := Lib.hid ((R4.out.alloc _).up hb10)
      replace R5 := Lib.hid ((R5.out.alloc _).up hb10)
      replace R6 := Lib.hid ((R6.out.alloc _).up hb10)
      replace R7 := Lib.hid ((R7.out.alloc _).up hb10)
      replace R8 := Lib.hid ((R8.out.alloc _).up hb10)
      have R9 := Lib.hid ((Box.new w9 k12 n12 s12).up hb10)
      clear hb10 hbel c0 c1 c2 d0 d1 d2 f0 f1 f2 r1_0 r1_1 r1_2 r2_0 r2_1 r2_2 r3_0 r3_1 r3_2 r4_0 r4_1 r4_2 r5_0 r5_1 r5_2 r6_0 r6_1 r6_2 r7_0 r7_1 r7_2 r8_0 r8_1 r8_2 r9_0 r9_1 r9_2
      obtain ⟨⟨c0, c1, c2⟩, ⟨d0, d1, d2⟩, ⟨f0, f1, f2⟩, hbel⟩ := HT.out (w10.alloc (.cells #[.int .i64 k13, .int .i64 n13, .string s13] 23)) (HM10.out.alloc HM10.out.size (.cells #[.int .i64 k13, .int .i64 n13, .string s13] 23))
      obtain ⟨r1_0, r1_1, r1_2⟩ := R1.out.alloc (.cells #[.int .i64 k13, .int .i64 n13, .string s13] 23)
      obtain ⟨r2_0, r2_1, r2_2⟩ := R2.out.alloc (.cells #[.int .i64 k13, .int .i64 n13, .string s13] 23)
      obtain ⟨r3_0, r3_1, r3_2⟩ := R3.out.alloc (.cells #[.int .i64 k13, .int .i64 n13, .string s13] 23)
      obtain ⟨r4_0, r4_1, r4_2⟩ := R4.out.alloc (.cells #[.int .i64 k13, .int .i64 n13, .string s13] 23)
      obtain ⟨r5_0, r5_1, r5_2⟩ := R5.out.alloc (.cells #[.int .i64 k13, .int .i64 n13, .string s13] 23)
      obtain ⟨r6_0, r6_1, r6_2⟩ := R6.out.alloc (.cells #[.int .i64 k13, .int .i64 n13, .string s13] 23)
      obtain ⟨r7_0, r7_1, r7_2⟩ := R7.out.alloc (.cells #[.int .i64 k13, .int .i64 n13, .string s13] 23)
      obtain ⟨r8_0, r8_1, r8_2⟩ := R8.out.alloc (.cells #[.int .i64 k13, .int .i64 n13, .string s13] 23)
      obtain ⟨r9_0, r9_1, r9_2⟩ := R9.out.alloc (.cells #[.int .i64 k13, .int .i64 n13, .string s13] 23)
      obtain ⟨r10_0, r10_1, r10_2⟩ := Box.new w10 k13 n13 s13
      go_wp2_with fail
      refine (HA.out _ (HW.out.below hbel)).mono ?_
      rintro e w11 ⟨rfl, hb11⟩
      have HB := Lib.hid (below_trans hbel hb11)
      clear hb11 hbel
      go_wp2
      go_ret
      exact ⟨rfl, HB.out⟩
    · have hyb : (y == 0) = false := by simpa using hy
      subst h6 h7
      clear hy
      go_wp2_with fail
      refine (C10.out _).mono ?_
      rintro e w7 ⟨rfl, hb7⟩
      have HM7 := Lib.hid (below_step HM6.out hb7)
      replace R1 := Lib.hid ((R1.out.alloc _).up hb7)
      replace R2 := Lib.hid ((R2.out.alloc _).up hb7)
      replace R3 := Lib.hid ((R3.out.alloc _).up hb7)
      replace R4 := Lib.hid ((R4.out.alloc _).up hb7)
      replace R5 := Lib.hid ((R5.out.alloc _).up hb7)
      have R6 := Lib.hid ((Box.new w6 k7 n7 s7).up hb7)
      clear hb7 hbel c0 c1 c2 d0 d1 d2 f0 f1 f2 r1_0 r1_1 r1_2 r2_0 r2_1 r2_2 r3_0 r3_1 r3_2 r4_0 r4_1 r4_2 r5_0 r5_1 r5_2 r6_0 r6_1 r6_2
      obtain ⟨⟨c0, c1, c2⟩, ⟨d0, d1, d2⟩, ⟨f0, f1, f2⟩, hbel⟩ := HT.out (w7.alloc (.cells #[.int .i64 k10, .int .i64 n10, .string s10] 23)) (HM7.out.alloc HM7.out.size (.cells #[.int .i64 k10, .int .i64 n10, .string s10] 23))
      obtain ⟨r1_0, r1_1, r1_2⟩ := R1.out.alloc (.cells #[.int .i64 k10, .int .i64 n10, .string s10] 23)
      obtain ⟨r2_0, r2_1, r2_2⟩ := R2.out.alloc (.cells #[.int .i64 k10, .int .i64 n10, .string s10] 23)
      obtain ⟨r3_0, r3_1, r3_2⟩ := R3.out.alloc (.cells #[.int .i64 k10, .int .i64 n10, .string s10] 23)
      obtain ⟨r4_0, r4_1, r4_2⟩ := R4.out.alloc (.cells #[.int .i64 k10, .int .i64 n10, .string s10] 23)
      obtain ⟨r5_0, r5_1, r5_2⟩ := R5.out.alloc (.cells #[.int .i64 k10, .int .i64 n10, .string s10] 23)
      obtain ⟨r6_0, r6_1, r6_2⟩ := R6.out.alloc (.cells #[.int .i64 k10, .int .i64 n10, .string s10] 23)
      obtain ⟨r7_0, r7_1, r7_2⟩ := Box.new w7 k10 n10 s10
      go_wp2_with fail
      refine (C11.out _).mono ?_
      rintro e w8 ⟨rfl, hb8⟩
      have HM8 := Lib.hid (below_step HM7.out hb8)
      replace R1 := Lib.hid ((R1.out.alloc _).up hb8)
      replace R2 := Lib.hid ((R2.out.alloc _).up hb8)
      replace R3 := Lib.hid ((R3.out.alloc _).up hb8)
      replace R4 := Lib.hid ((R4.out.alloc _).up hb8)
      replace R5 := Lib.hid ((R5.out.alloc _).up hb8)
      replace R6 := Lib.hid ((R6.out.alloc _).up hb8)
      have R7 := Lib.hid ((Box.new w7 k10 n10 s10).up hb8)
      clear hb8 hbel c0 c1 c2 d0 d1 d2 f0 f1 f2 r1_0 r1_1 r1_2 r2_0 r2_1 r2_2 r3_0 r3_1 r3_2 r4_0 r4_1 r4_2 r5_0 r5_1 r5_2 r6_0 r6_1 r6_2 r7_0 r7_1 r7_2
      obtain ⟨⟨c0, c1, c2⟩, ⟨d0, d1, d2⟩, ⟨f0, f1, f2⟩, hbel⟩ := HT.out (w8.alloc (.cells #[.int .i64 k11, .int .i64 n11, .string s11] 23)) (HM8.out.alloc HM8.out.size (.cells #[.int .i64 k11, .int .i64 n11, .string s11] 23))
      obtain ⟨r1_0, r1_1, r1_2⟩ := R1.out.alloc (.cells #[.int .i64 k11, .int .i64 n11, .string s11] 23)
      obtain ⟨r2_0, r2_1, r2_2⟩ := R2.out.alloc (.cells #[.int .i64 k11, .int .i64 n11, .string s11] 23)
      obtain ⟨r3_0, r3_1, r3_2⟩ := R3.out.alloc (.cells #[.int .i64 k11, .int .i64 n11, .string s11] 23)
      obtain ⟨r4_0, r4_1, r4_2⟩ := R4.out.alloc (.cells #[.int .i64 k11, .int .i64 n11, .string s11] 23)
      obtain ⟨r5_0, r5_1, r5_2⟩ := R5.out.alloc (.cells #[.int .i64 k11, .int .i64 n11, .string s11] 23)
      obtain ⟨r6_0, r6_1, r6_2⟩ := R6.out.alloc (.cells #[.int .i64 k11, .int .i64 n11, .string s11] 23)
      obtain ⟨r7_0, r7_1, r7_2⟩ := R7.out.alloc (.cells #[.int .i64 k11, .int .i64 n11, .string s11] 23)
      obtain ⟨r8_0, r8_1, r8_2⟩ := Box.new w8 k11 n11 s11
      go_wp2_with fail
      refine (C12.out _).mono ?_
      rintro e w9 ⟨rfl, hb9⟩
      have HM9 := Lib.hid (below_step HM8.out hb9)
      replace R1 := Lib.hid ((R1.out.alloc _).up hb9)
      replace R2 := Lib.hid ((R2.out.alloc _).up hb9)
      replace R3 := Lib.hid ((R3.out.alloc _).up hb9)
      replace R4 := Lib.hid ((R4.out.alloc _).up hb9)
      replace R5 := Lib.hid ((R5.out.alloc _).up hb9)
      replace R6 := Lib.hid ((R6.out.alloc _).up hb9)
      replace R7 := Lib.hid ((R7.out.alloc _).up hb9)
      have R8 := Lib.hid ((Box.new w8 k11 n11 s11).up hb9)
      clear hb9 hbel c0 c1 c2 d0 d1 d2 f0 f1 f2 r1_0 r1_1 r1_2 r2_0 r2_1 r2_2 r3_0 r3_1 r3_2 r4_0 r4_1 r4_2 r5_0 r5_1 r5_2 r6_0 r6_1 r6_2 r7_0 r7_1 r7_2 r8_0 r8_1 r8_2
      obtain ⟨⟨c0, c1, c2⟩, ⟨d0, d1, d2⟩, ⟨f0, f1, f2⟩, hbel⟩ := HT.out (w9.alloc (.cells #[.int .i64 k12, .int .i64 n12, .string s12] 23)) (HM9.out.alloc HM9.out.size (.cells #[.int .i64 k12, .int .i64 n12, .string s12] 23))
      obtain ⟨r1_0, r1_1, r1_2⟩ := R1.out.alloc (.cells #[.int .i64 k12, .int .i64 n12, .string s12] 23)
      obtain ⟨r2_0, r2_1, r2_2⟩ := R2.out.alloc (.cells #[.int .i64 k12, .int .i64 n12, .string s12] 23)
      obtain ⟨r3_0, r3_1, r3_2⟩ := R3.out.alloc (.cells #[.int .i64 k12, .int .i64 n12, .string s12] 23)
      obtain ⟨r4_0, r4_1, r4_2⟩ := R4.out.alloc (.cells #[.int .i64 k12, .int .i64 n12, .string s12] 23)
      obtain ⟨r5_0, r5_1, r5_2⟩ := R5.out.alloc (.cells #[.int .i64 k12, .int .i64 n12, .string s12] 23)
      obtain ⟨r6_0, r6_1, r6_2⟩ := R6.out.alloc (.cells #[.int .i64 k12, .int .i64 n12, .string s12] 23)
      obtain ⟨r7_0, r7_1, r7_2⟩ := R7.out.alloc (.cells #[.int .i64 k12, .int .i64 n12, .string s12] 23)
      obtain ⟨r8_0, r8_1, r8_2⟩ := R8.out.alloc (.cells #[.int .i64 k12, .int .i64 n12, .string s12] 23)
      obtain ⟨r9_0, r9_1, r9_2⟩ := Box.new w9 k12 n12 s12
      go_wp2_with fail
      refine (C13.out _).mono ?_
      rintro e w10 ⟨rfl, hb10⟩
      have HM10 := Lib.hid (below_step HM9.out hb10)
      replace R1 := Lib.hid ((R1.out.alloc _).up hb10)
      replace R2 := Lib.hid ((R2.out.alloc _).up hb10)
      replace R3 := Lib.hid ((R3.out.alloc _).up hb10)
      replace R4 := Lib.hid ((R4.out.alloc _).up hb10)
      replace R5 := Lib.hid ((R5.out.alloc _).up hb10)
      replace R6 := Lib.hid ((R6.out.alloc _).up hb10)
      replace R7 := Lib.hid ((R7.out.alloc _).up hb10)
      replace R8 := Lib.hid ((R8.out.alloc _).up hb10)
      have R9 := Lib.hid ((Box.new w9 k12 n12 s12).up hb10)
      clear hb10 hbel c0 c1 c2 d0 d1 d2 f0 f1 f2 r1_0 r1_1 r1_2 r2_0 r2_1 r2_2 r3_0 r3_1 r3_2 r4_0 r4_1 r4_2 r5_0 r5_1 r5_2 r6_0 r6_1 r6_2 r7_0 r7_1 r7_2 r8_0 r8_1 r8_2 r9_0 r9_1 r9_2
      obtain ⟨⟨c0, c1, c2⟩, ⟨d0, d1, d2⟩, ⟨f0, f1, f2⟩, hbel⟩ := HT.out (w10.alloc (.cells #[.int .i64 k13, .int .i64 n13, .string s13] 23)) (HM10.out.alloc HM10.out.size (.cells #[.int .i64 k13, .int .i64 n13, .string s13] 23))
      obtain ⟨r1_0, r1_1, r1_2⟩ := R1.out.alloc (.cells #[.int .i64 k13, .int .i64 n13, .string s13] 23)
      obtain ⟨r2_0, r2_1, r2_2⟩ := R2.out.alloc (.cells #[.int .i64 k13, .int .i64 n13, .string s13] 23)
      obtain ⟨r3_0, r3_1, r3_2⟩ := R3.out.alloc (.cells #[.int .i64 k13, .int .i64 n13, .string s13] 23)
      obtain ⟨r4_0, r4_1, r4_2⟩ := R4.out.alloc (.cells #[.int .i64 k13, .int .i64 n13, .string s13] 23)
      obtain ⟨r5_0, r5_1, r5_2⟩ := R5.out.alloc (.cells #[.int .i64 k13, .int .i64 n13, .string s13] 23)
      obtain ⟨r6_0, r6_1, r6_2⟩ := R6.out.alloc (.cells #[.int .i64 k13, .int .i64 n13, .string s13] 23)
      obtain ⟨r7_0, r7_1, r7_2⟩ := R7.out.alloc (.cells #[.int .i64 k13, .int .i64 n13, .string s13] 23)
      obtain ⟨r8_0, r8_1, r8_2⟩ := R8.out.alloc (.cells #[.int .i64 k13, .int .i64 n13, .string s13] 23)
      obtain ⟨r9_0, r9_1, r9_2⟩ := R9.out.alloc (.cells #[.int .i64 k13, .int .i64 n13, .string s13] 23)
      obtain ⟨r10_0, r10_1, r10_2⟩ := Box.new w10 k13 n13 s13
      go_wp2_with fail
      refine (HA.out _ (HW.out.below hbel)).mono ?_
      rintro e w11 ⟨rfl, hb11⟩
      have HB := Lib.hid (below_trans hbel hb11)
      clear hb11 hbel
      go_wp2
      go_ret
      exact ⟨rfl, HB.out⟩
    · have hyb : (y == 0) = false := by simpa using hy
      obtain ⟨rfl, ⟨rfl, hn9, rfl⟩, rfl⟩ := F8.out hy h6
      replace hn9 := hn9.symm
      subst hn9
      subst h6 h7
      clear hy
      go_wp2_with fail
      refine (C8.out _).mono ?_
      rintro e w7 ⟨rfl, hb7⟩
      have HM7 := Lib.hid (below_step HM6.out hb7)
      replace R1 := Lib.hid ((R1.out.alloc _).up hb7)
      replace R2 := Lib.hid ((R2.out.alloc _).up hb7)
      replace R3 := Lib.hid ((R3.out.alloc _).up hb7)
      replace R4 := Lib.hid ((R4.out.alloc _).up hb7)
      replace R5 := Lib.hid ((R5.out.alloc _).up hb7)
      have R6 := Lib.hid ((Box.new w6 k7 n7 s7).up hb7)
      clear hb7 hbel c0 c1 c2 d0 d1 d2 f0 f1 f2 r1_0 r1_1 r1_2 r2_0 r2_1 r2_2 r3_0 r3_1 r3_2 r4_0 r4_1 r4_2 r5_0 r5_1 r5_2 r6_0 r6_1 r6_2
      obtain ⟨⟨c0, c1, c2⟩, ⟨d0, d1, d2⟩, ⟨f0, f1, f2⟩, hbel⟩ := HT.out (w7.alloc (.cells #[.int .i64 k8, .int .i64 n8, .string s8] 23)) (HM7.out.alloc HM7.out.size (.cells #[.int .i64 k8, .int .i64 n8, .string s8] 23))
      obtain ⟨r1_0, r1_1, r1_2⟩ := R1.out.alloc (.cells #[.int .i64 k8, .int .i64 n8, .string s8] 23)
      obtain ⟨r2_0, r2_1, r2_2⟩ := R2.out.alloc (.cells #[.int .i64 k8, .int .i64 n8, .string s8] 23)
      obtain ⟨r3_0, r3_1, r3_2⟩ := R3.out.alloc (.cells #[.int .i64 k8, .int .i64 n8, .string s8] 23)
      obtain ⟨r4_0, r4_1, r4_2⟩ := R4.out.alloc (.cells #[.int .i64 k8, .int .i64 n8, .string s8] 23)
      obtain ⟨r5_0, r5_1, r5_2⟩ := R5.out.alloc (.cells #[.int .i64 k8, .int .i64 n8, .string s8] 23)
      obtain ⟨r6_0, r6_1, r6_2⟩ := R6.out.alloc (.cells #[.int .i64 k8, .int .i64 n8, .string s8] 23)
      obtain ⟨r7_0, r7_1, r7_2⟩ := Box.new w7 k8 n8 s8
      go_wp2_with fail
      refine (C9.out _).mono ?_
      rintro e w8 ⟨rfl, hb8⟩
      have HM8 := Lib.hid (below_step HM7.out hb8)
      replace R1 := Lib.hid ((R1.out.alloc _).up hb8)
      replace R2 := Lib.hid ((R2.out.alloc _).up hb8)
      replace R3 := Lib.hid ((R3.out.alloc _).up hb8)
      replace R4 := Lib.hid ((R4.out.alloc _).up hb8)
      replace R5 := Lib.hid ((R5.out.alloc _).up hb8)
      replace R6 := Lib.hid ((R6.out.alloc _).up hb8)
      have R7 := Lib.hid ((Box.new w7 k8 n8 s8).up hb8)
      clear hb8 hbel c0 c1 c2 d0 d1 d2 f0 f1 f2 r1_0 r1_1 r1_2 r2_0 r2_1 r2_2 r3_0 r3_1 r3_2 r4_0 r4_1 r4_2 r5_0 r5_1 r5_2 r6_0 r6_1 r6_2 r7_0 r7_1 r7_2
      obtain ⟨⟨c0, c1, c2⟩, ⟨d0, d1, d2⟩, ⟨f0, f1, f2⟩, hbel⟩ := HT.out (w8.alloc (.cells #[.int .i64 1, .int .i64 x, .string ⟨#[]⟩] 23)) (HM8.out.alloc HM8.out.size (.cells #[.int .i64 1, .int .i64 x, .string ⟨#[]⟩] 23))
      obtain ⟨r1_0, r1_1, r1_2⟩ := R1.out.alloc (.cells #[.int .i64 1, .int .i64 x, .string ⟨#[]⟩] 23)
      obtain ⟨r2_0, r2_1, r2_2⟩ := R2.out.alloc (.cells #[.int .i64 1, .int .i64 x, .string ⟨#[]⟩] 23)
      obtain ⟨r3_0, r3_1, r3_2⟩ := R3.out.alloc (.cells #[.int .i64 1, .int .i64 x, .string ⟨#[]⟩] 23)
      obtain ⟨r4_0, r4_1, r4_2⟩ := R4.out.alloc (.cells #[.int .i64 1, .int .i64 x, .string ⟨#[]⟩] 23)
      obtain ⟨r5_0, r5_1, r5_2⟩ := R5.out.alloc (.cells #[.int .i64 1, .int .i64 x, .string ⟨#[]⟩] 23)
      obtain ⟨r6_0, r6_1, r6_2⟩ := R6.out.alloc (.cells #[.int .i64 1, .int .i64 x, .string ⟨#[]⟩] 23)
      obtain ⟨r7_0, r7_1, r7_2⟩ := R7.out.alloc (.cells #[.int .i64 1, .int .i64 x, .string ⟨#[]⟩] 23)
      obtain ⟨r8_0, r8_1, r8_2⟩ := Box.new w8 1 x ⟨#[]⟩
      go_wp2_with fail
      refine (C10.out _).mono ?_
      rintro e w9 ⟨rfl, hb9⟩
      have HM9 := Lib.hid (below_step HM8.out hb9)
      replace R1 := Lib.hid ((R1.out.alloc _).up hb9)
      replace R2 := Lib.hid ((R2.out.alloc _).up hb9)
      replace R3 := Lib.hid ((R3.out.alloc _).up hb9)
      replace R4 := Lib.hid ((R4.out.alloc _).up hb9)
      replace R5 := Lib.hid ((R5.out.alloc _).up hb9)
      replace R6 := Lib.hid ((R6.out.alloc _).up hb9)
      replace R7 := Lib.hid ((R7.out.alloc _).up hb9)
      have R8 := Lib.hid ((Box.new w8 1 x ⟨#[]⟩).up hb9)
      clear hb9 hbel c0 c1 c2 d0 d1 d2 f0 f1 f2 r1_0 r1_1 r1_2 r2_0 r2_1 r2_2 r3_0 r3_1 r3_2 r4_0 r4_1 r4_2 r5_0 r5_1 r5_2 r6_0 r6_1 r6_2 r7_0 r7_1 r7_2 r8_0 r8_1 r8_2
      obtain ⟨⟨c0, c1, c2⟩, ⟨d0, d1, d2⟩, ⟨f0, f1, f2⟩, hbel⟩ := HT.out (w9.alloc (.cells #[.int .i64 k10, .int .i64 n10, .string s10] 23)) (HM9.out.alloc HM9.out.size (.cells #[.int .i64 k10, .int .i64 n10, .string s10] 23))
      obtain ⟨r1_0, r1_1, r1_2⟩ := R1.out.alloc (.cells #[.int .i64 k10, .int .i64 n10, .string s10] 23)
      obtain ⟨r2_0, r2_1, r2_2⟩ := R2.out.alloc (.cells #[.int .i64 k10, .int .i64 n10, .string s10] 23)
      obtain ⟨r3_0, r3_1, r3_2⟩ := R3.out.alloc (.cells #[.int .i64 k10, .int .i64 n10, .string s10] 23)
      obtain ⟨r4_0, r4_1, r4_2⟩ := R4.out.alloc (.cells #[.int .i64 k10, .int .i64 n10, .string s10] 23)
      obtain ⟨r5_0, r5_1, r5_2⟩ := R5.out.alloc (.cells #[.int .i64 k10, .int .i64 n10, .string s10] 23)
      obtain ⟨r6_0, r6_1, r6_2⟩ := R6.out.alloc (.cells #[.int .i64 k10, .int .i64 n10, .string s10] 23)
      obtain ⟨r7_0, r7_1, r7_2⟩ := R7.out.alloc (.cells #[.int .i64 k10, .int .i64 n10, .string s10] 23)
      obtain ⟨r8_0, r8_1, r8_2⟩ := R8.out.alloc (.cells #[.int .i64 k10, .int .i64 n10, .string s10] 23)
      obtain ⟨r9_0, r9_1, r9_2⟩ := Box.new w9 k10 n10 s10
      go_wp2_with fail
      refine (C11.out _).mono ?_
      rintro e w10 ⟨rfl, hb10⟩
      have HM10 := Lib.hid (below_step HM9.out hb10)
      replace R1 := Lib.hid ((R1.out.alloc _).up hb10)
      replace R2 := Lib.hid ((R2.out.alloc _).up hb10)
      replace R3 := Lib.hid ((R3.out.alloc _).up hb10)
      replace R4 := Lib.hid ((R4.out.alloc _).up hb10)
      replace R5 := Lib.hid ((R5.out.alloc _).up hb10)
      replace R6 := Lib.hid ((R6.out.alloc _).up hb10)
      replace R7 := Lib.hid ((R7.out.alloc _).up hb10)
      replace R8 := Lib.hid ((R8.out.alloc _).up hb10)
      have R9 := Lib.hid ((Box.new w9 k10 n10 s10).up hb10)
      clear hb10 hbel c0 c1 c2 d0 d1 d2 f0 f1 f2 r1_0 r1_1 r1_2 r2_0 r2_1 r2_2 r3_0 r3_1 r3_2 r4_0 r4_1 r4_2 r5_0 r5_1 r5_2 r6_0 r6_1 r6_2 r7_0 r7_1 r7_2 r8_0 r8_1 r8_2 r9_0 r9_1 r9_2
      obtain ⟨⟨c0, c1, c2⟩, ⟨d0, d1, d2⟩, ⟨f0, f1, f2⟩, hbel⟩ := HT.out (w10.alloc (.cells #[.int .i64 k11, .int .i64 n11, .string s11] 23)) (HM10.out.alloc HM10.out.size (.cells #[.int .i64 k11, .int .i64 n11, .string s11] 23))
      obtain ⟨r1_0, r1_1, r1_2⟩ := R1.out.alloc (.cells #[.int .i64 k11, .int .i64 n11, .string s11] 23)
      obtain ⟨r2_0, r2_1, r2_2⟩ := R2.out.alloc (.cells #[.int .i64 k11, .int .i64 n11, .string s11] 23)
      obtain ⟨r3_0, r3_1, r3_2⟩ := R3.out.alloc (.cells #[.int .i64 k11, .int .i64 n11, .string s11] 23)
      obtain ⟨r4_0, r4_1, r4_2⟩ := R4.out.alloc (.cells #[.int .i64 k11, .int .i64 n11, .string s11] 23)
      obtain ⟨r5_0, r5_1, r5_2⟩ := R5.out.alloc (.cells #[.int .i64 k11, .int .i64 n11, .string s11] 23)
      obtain ⟨r6_0, r6_1, r6_2⟩ := R6.out.alloc (.cells #[.int .i64 k11, .int .i64 n11, .string s11] 23)
      obtain ⟨r7_0, r7_1, r7_2⟩ := R7.out.alloc (.cells #[.int .i64 k11, .int .i64 n11, .string s11] 23)
      obtain ⟨r8_0, r8_1, r8_2⟩ := R8.out.alloc (.cells #[.int .i64 k11, .int .i64 n11, .string s11] 23)
      obtain ⟨r9_0, r9_1, r9_2⟩ := R9.out.alloc (.cells #[.int .i64 k11, .int .i64 n11, .string s11] 23)
      obtain ⟨r10_0, r10_1, r10_2⟩ := Box.new w10 k11 n11 s11
      go_wp2_with fail
      refine (C12.out _).mono ?_
      rintro e w11 ⟨rfl, hb11⟩
      have HM11 := Lib.hid (below_step HM10.out hb11)
      replace R1 := Lib.hid ((R1.out.alloc _).up hb11)
      replace R2 := Lib.hid ((R2.out.alloc _).up hb11)
      replace R3 := Lib.hid ((R3.out.alloc _).up hb11)
      replace R4 := Lib.hid ((R4.out.alloc _).up hb11)
      replace R5 := Lib.hid ((R5.out.alloc _).up hb11)
      replace R6 := Lib.hid ((R6.out.alloc _).up hb11)
      replace R7 := Lib.hid ((R7.out.alloc _).up hb11)
      replace R8 := Lib.hid ((R8.out.alloc _).up hb11)
      replace R9 := Lib.hid ((R9.out.alloc _).up hb11)
      have R10 := Lib.hid ((Box.new w10 k11 n11 s11).up hb11)
      clear hb11 hbel c0 c1 c2 d0 d1 d2 f0 f1 f2 r1_0 r1_1 r1_2 r2_0 r2_1 r2_2 r3_0 r3_1 r3_2 r4_0 r4_1 r4_2 r5_0 r5_1 r5_2 r6_0 r6_1 r6_2 r7_0 r7_1 r7_2 r8_0 r8_1 r8_2 r9_0 r9_1 r9_2 r10_0 r10_1 r10_2
      obtain ⟨⟨c0, c1, c2⟩, ⟨d0, d1, d2⟩, ⟨f0, f1, f2⟩, hbel⟩ := HT.out (w11.alloc (.cells #[.int .i64 k12, .int .i64 n12, .string s12] 23)) (HM11.out.alloc HM11.out.size (.cells #[.int .i64 k12, .int .i64 n12, .string s12] 23))
      obtain ⟨r1_0, r1_1, r1_2⟩ := R1.out.alloc (.cells #[.int .i64 k12, .int .i64 n12, .string s12] 23)
      obtain ⟨r2_0, r2_1, r2_2⟩ := R2.out.alloc (.cells #[.int .i64 k12, .int .i64 n12, .string s12] 23)
      obtain ⟨r3_0, r3_1, r3_2⟩ := R3.out.alloc (.cells #[.int .i64 k12, .int .i64 n12, .string s12] 23)
      obtain ⟨r4_0, r4_1, r4_2⟩ := R4.out.alloc (.cells #[.int .i64 k12, .int .i64 n12, .string s12] 23)
      obtain ⟨r5_0, r5_1, r5_2⟩ := R5.out.alloc (.cells #[.int .i64 k12, .int .i64 n12, .string s12] 23)
      obtain ⟨r6_0, r6_1, r6_2⟩ := R6.out.alloc (.cells #[.int .i64 k12, .int .i64 n12, .string s12] 23)
      obtain ⟨r7_0, r7_1, r7_2⟩ := R7.out.alloc (.cells #[.int .i64 k12, .int .i64 n12, .string s12] 23)
      obtain ⟨r8_0, r8_1, r8_2⟩ := R8.out.alloc (.cells #[.int .i64 k12, .int .i64 n12, .string s12] 23)
      obtain ⟨r9_0, r9_1, r9_2⟩ := R9.out.alloc (.cells #[.int .i64 k12, .int .i64 n12, .string s12] 23)
      obtain ⟨r10_0, r10_1, r10_2⟩ := R10.out.alloc (.cells #[.int .i64 k12, .int .i64 n12, .string s12] 23)
      obtain ⟨r11_0, r11_1, r11_2⟩ := Box.new w11 k12 n12 s12
      go_wp2_with fail
      refine (C13.out _).mono ?_
      rintro e w12 ⟨rfl, hb12⟩
      have HM12 := Lib.hid (below_step HM11.out hb12)
      replace R1 := Lib.hid ((R1.out.alloc _).up hb12)
      replace R2 := Lib.hid ((R2.out.alloc _).up hb12)
      replace R3 := Lib.hid ((R3.out.alloc _).up hb12)
      replace R4 := Lib.hid ((R4.out.alloc _).up hb12)
      replace R5 := Lib.hid ((R5.out.alloc _).up hb12)
      replace R6 := Lib.hid ((R6.out.alloc _).up hb12)
      replace R7 := Lib.hid ((R7.out.alloc _).up hb12)
      replace R8 := Lib.hid ((R8.out.alloc _).up hb12)
      replace R9 := Lib.hid ((R9.out.alloc _).up hb12)
      replace R10 := Lib.hid ((R10.out.alloc _).up hb12)
      have R11 := Lib.hid ((Box.new w11 k12 n12 s12).up hb12)
      clear hb12 hbel c0 c1 c2 d0 d1 d2 f0 f1 f2 r1_0 r1_1 r1_2 r2_0 r2_1 r2_2 r3_0 r3_1 r3_2 r4_0 r4_1 r4_2 r5_0 r5_1 r5_2 r6_0 r6_1 r6_2 r7_0 r7_1 r7_2 r8_0 r8_1 r8_2 r9_0 r9_1 r9_2 r10_0 r10_1 r10_2 r11_0 r11_1 r11_2
      obtain ⟨⟨c0, c1, c2⟩, ⟨d0, d1, d2⟩, ⟨f0, f1, f2⟩, hbel⟩ := HT.out (w12.alloc (.cells #[.int .i64 k13, .int .i64 n13, .string s13] 23)) (HM12.out.alloc HM12.out.size (.cells #[.int .i64 k13, .int .i64 n13, .string s13] 23))
      obtain ⟨r1_0, r1_1, r1_2⟩ := R1.out.alloc (.cells #[.int .i64 k13, .int .i64 n13, .string s13] 23)
      obtain ⟨r2_0, r2_1, r2_2⟩ := R2.out.alloc (.cells #[.int .i64 k13, .int .i64 n13, .string s13] 23)
      obtain ⟨r3_0, r3_1, r3_2⟩ := R3.out.alloc (.cells #[.int .i64 k13, .int .i64 n13, .string s13] 23)
      obtain ⟨r4_0, r4_1, r4_2⟩ := R4.out.alloc (.cells #[.int .i64 k13, .int .i64 n13, .string s13] 23)
      obtain ⟨r5_0, r5_1, r5_2⟩ := R5.out.alloc (.cells #[.int .i64 k13, .int .i64 n13, .string s13] 23)
      obtain ⟨r6_0, r6_1, r6_2⟩ := R6.out.alloc (.cells #[.int .i64 k13, .int .i64 n13, .string s13] 23)
      obtain ⟨r7_0, r7_1, r7_2⟩ := R7.out.alloc (.cells #[.int .i64 k13, .int .i64 n13, .string s13] 23)
      obtain ⟨r8_0, r8_1, r8_2⟩ := R8.out.alloc (.cells #[.int .i64 k13, .int .i64 n13, .string s13] 23)
      obtain ⟨r9_0, r9_1, r9_2⟩ := R9.out.alloc (.cells #[.int .i64 k13, .int .i64 n13, .string s13] 23)
      obtain ⟨r10_0, r10_1, r10_2⟩ := R10.out.alloc (.cells #[.int .i64 k13, .int .i64 n13, .string s13] 23)
      obtain ⟨r11_0, r11_1, r11_2⟩ := R11.out.alloc (.cells #[.int .i64 k13, .int .i64 n13, .string s13] 23)
      obtain ⟨r12_0, r12_1, r12_2⟩ := Box.new w12 k13 n13 s13
      go_wp2_with fail
      refine (HA.out _ (HW.out.below hbel)).mono ?_
      rintro e w13 ⟨rfl, hb13⟩
      have HB := Lib.hid (below_trans hbel hb13)
      clear hb13 hbel
      go_wp2
      go_ret
      exact ⟨rfl, HB.out⟩
end Go.Proofs.YtjfpkjpicalfmaaDoor.valueRing
