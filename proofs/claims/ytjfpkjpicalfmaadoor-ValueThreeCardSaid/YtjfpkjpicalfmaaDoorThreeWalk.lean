/-
  THE WALK OF ValueThree.
-/
import Derived.Test.YtjfpkjpicalfmaaDoorThreeMath
namespace Go.Proofs.YtjfpkjpicalfmaaDoor.valueThree
open Go.RowKit Go.Sort
attribute [local go_sem high] run_eq23 run_neq23 run_eq9

set_option maxRecDepth 100000 in
set_option maxHeartbeats 16000000 in
theorem walked (a b c : V) (w : World) (ha : VOk a) (hb : VOk b) (hc : VOk c) (hw : Sm w) :
    Calls Tryd.prog 9 #[a.agg, b.agg, c.agg] w fun e w' => e = .returned (.bool true) ∧ Below w.heap.size w w' := by
  have C1 := Lib.hid (lt_any a b ha.s hb.s)
  have C2 := Lib.hid (ge_any a b ha.s hb.s)
  have C3 := Lib.hid (not_any (holdV (fun n => decide (n < 0)) a b) (s_le (hold_s _ _ _)))
  have C4 := Lib.hid (and_any a b ha.s hb.s)
  have C5 := Lib.hid (and_any b a hb.s ha.s)
  have C6 := Lib.hid (not_any a ha.s)
  have C7 := Lib.hid (not_any b hb.s)
  have C8 := Lib.hid (or_any (notV a) (notV b) (s_le (not_s _)) (s_le (not_s _)))
  have C9 := Lib.hid (not_any (decV false a b) (s_le (dec_s _ _ _)))
  have C10 := Lib.hid (and_any b c hb.s hc.s)
  have C11 := Lib.hid (and_any (decV false a b) c (s_le (dec_s _ _ _)) hc.s)
  have C12 := Lib.hid (and_any a (decV false b c) ha.s (s_le (dec_s _ _ _)))
  rw [not_hold, want_hold] at C3
  rw [← dec_swap, want_swap b a] at C5
  have HF1 : Hid (want 3 [a, b] = 0 → want 3 [a] = 0 ∧ want 3 [b] = 0 ∧ want 3 [notV a, notV b] = 0 ∧ want 3 [decV false a b] = 0 ∧ decV true (notV a) (notV b) = notV (decV false a b)) := by
    show (want 3 [a, b] = 0 → want 3 [a] = 0 ∧ want 3 [b] = 0 ∧ want 3 [notV a, notV b] = 0 ∧ want 3 [decV false a b] = 0 ∧ decV true (notV a) (notV b) = notV (decV false a b))
    intro h
    obtain ⟨h1, h2⟩ := tri_of h
    exact ⟨tri_want h1, tri_want h2, tri_two (tri_not _) (tri_not _), tri_want (tri_dec _ _ _), morgan h1 h2⟩
  have HF2 : Hid (want 3 [a, b] = 0 → want 3 [b, c] = 0 → decV false (decV false a b) c = decV false a (decV false b c)) := by
    show (want 3 [a, b] = 0 → want 3 [b, c] = 0 → decV false (decV false a b) c = decV false a (decV false b c))
    intro h k
    exact assoc (tri_of h).1 (tri_of h).2 (tri_of k).2
  have HT := Lib.hid (fun (w' : World) (h : Below (P3 w a b c).heap.size (P3 w a b c) w') => p3_boxes h)
  have HA := Lib.hid (fun (W : World) (h : Sm W) => awake_any W h)
  have HM0 := Lib.hid (Below.refl (P3 w a b c).heap.size (P3 w a b c))
  have HW := Lib.hid hw
  have HQ := Lib.hid veq_refl
  generalize holdV (fun n => decide (n < 0)) a b = x1 at C1 C3
  generalize holdV (fun n => decide (n ≥ 0)) a b = x2 at C2 C3
  generalize decV true (notV a) (notV b) = x8 at C8 HF1
  generalize notV (decV false a b) = x9 at C9 HF1
  generalize decV false (decV false a b) c = x11 at C11 HF2
  generalize decV false a (decV false b c) = x12 at C12 HF2
  generalize want 3 [notV a, notV b] = e8 at C8 HF1
  generalize want 3 [decV false a b] = e9 at C9 HF1
  generalize want 3 [decV false a b, c] = e11 at C11
  generalize want 3 [a, decV false b c] = e12 at C12
  generalize decV false a b = x4 at C4 C5 C9 C11
  generalize decV false b c = x10 at C10 C12
  generalize notV a = x6 at C6 C8
  generalize notV b = x7 at C7 C8
  generalize holdE a b = e1 at C1 C2
  generalize want 3 [a, b] = e4 at C4 C5 HF1 HF2
  generalize want 3 [b, c] = e10 at C10 HF2
  generalize want 3 [a] = e6 at C6 HF1
  generalize want 3 [b] = e7 at C7 HF1
  clear ha hb hc hw
  unfold V.agg
  generalize hM2 : P3 w a b c = MM at HT HM0
  have hM3 := hM2
  unfold P3 M2 at hM3
  obtain ⟨ak, an, az⟩ := a
  obtain ⟨bk, bn, bs⟩ := b
  obtain ⟨ck, cn, cs⟩ := c
  obtain ⟨k1, n1, s1⟩ := x1
  obtain ⟨k2, n2, s2⟩ := x2
  obtain ⟨k4, n4, s4⟩ := x4
  obtain ⟨k6, n6, s6⟩ := x6
  obtain ⟨k7, n7, s7⟩ := x7
  obtain ⟨k8, n8, s8⟩ := x8
  obtain ⟨k9, n9, s9⟩ := x9
  obtain ⟨k10, n10, s10⟩ := x10
  obtain ⟨k11, n11, s11⟩ := x11
  obtain ⟨k12, n12, s12⟩ := x12
  simp only [V.mk.injEq] at C1 C2 C3 C4 C5 C6 C7 C8 C9 C10 C11 C12 HT HF1 HF2 hM3 ⊢
  have HMM := Lib.hid hM3
  clear hM2 hM3
  have q2 := HQ.out k2 n2 s2
  have q4 := HQ.out k4 n4 s4
  go_enter Tryd.func9, Tryd.ntmps9
  go_wp2_with fail
  refine (C1.out _).mono ?_
  rintro e w1 ⟨rfl, hb1⟩
  rw [HMM.out] at hb1
  have HM1 := Lib.hid hb1
  clear hb1
  obtain ⟨⟨c0, c1, c2⟩, ⟨d0, d1, d2⟩, ⟨f0, f1, f2⟩, hbel⟩ := HT.out (w1.alloc (.cells #[.int .i64 k1, .int .i64 n1, .string s1] 23)) (HM1.out.alloc HM1.out.size (.cells #[.int .i64 k1, .int .i64 n1, .string s1] 23))
  obtain ⟨r1_0, r1_1, r1_2⟩ := Box.new w1 k1 n1 s1
  go_wp2_with fail
  refine (C2.out _).mono ?_
  rintro e w2 ⟨rfl, hb2⟩
  have HM2 := Lib.hid (below_step HM1.out hb2)
  have R1 := Lib.hid ((Box.new w1 k1 n1 s1).up hb2)
  clear hb2 hbel c0 c1 c2 d0 d1 d2 f0 f1 f2 r1_0 r1_1 r1_2
  obtain ⟨⟨c0, c1, c2⟩, ⟨d0, d1, d2⟩, ⟨f0, f1, f2⟩, hbel⟩ := HT.out (w2.alloc (.cells #[.int .i64 k2, .int .i64 n2, .string s2] 23)) (HM2.out.alloc HM2.out.size (.cells #[.int .i64 k2, .int .i64 n2, .string s2] 23))
  obtain ⟨r1_0, r1_1, r1_2⟩ := R1.out.alloc (.cells #[.int .i64 k2, .int .i64 n2, .string s2] 23)
  obtain ⟨r2_0, r2_1, r2_2⟩ := Box.new w2 k2 n2 s2
  go_wp2_with fail
  refine (C3.out _).mono ?_
  rintro e w3 ⟨rfl, hb3⟩
  have HM3 := Lib.hid (below_step HM2.out hb3)
  replace R1 := Lib.hid ((R1.out.alloc _).up hb3)
  have R2 := Lib.hid ((Box.new w2 k2 n2 s2).up hb3)
  clear hb3 hbel c0 c1 c2 d0 d1 d2 f0 f1 f2 r1_0 r1_1 r1_2 r2_0 r2_1 r2_2
  obtain ⟨⟨c0, c1, c2⟩, ⟨d0, d1, d2⟩, ⟨f0, f1, f2⟩, hbel⟩ := HT.out (w3.alloc (.cells #[.int .i64 k2, .int .i64 n2, .string s2] 23)) (HM3.out.alloc HM3.out.size (.cells #[.int .i64 k2, .int .i64 n2, .string s2] 23))
  obtain ⟨r1_0, r1_1, r1_2⟩ := R1.out.alloc (.cells #[.int .i64 k2, .int .i64 n2, .string s2] 23)
  obtain ⟨r2_0, r2_1, r2_2⟩ := R2.out.alloc (.cells #[.int .i64 k2, .int .i64 n2, .string s2] 23)
  obtain ⟨r3_0, r3_1, r3_2⟩ := Box.new w3 k2 n2 s2
  by_cases hq1 : e1 = 0
  · subst hq1
    go_wp2_with fail
    refine (C4.out _).mono ?_
    rintro e w4 ⟨rfl, hb4⟩
    have HM4 := Lib.hid (below_step HM3.out hb4)
    replace R1 := Lib.hid ((R1.out.alloc _).up hb4)
    replace R2 := Lib.hid ((R2.out.alloc _).up hb4)
    have R3 := Lib.hid ((Box.new w3 k2 n2 s2).up hb4)
    clear hb4 hbel c0 c1 c2 d0 d1 d2 f0 f1 f2 r1_0 r1_1 r1_2 r2_0 r2_1 r2_2 r3_0 r3_1 r3_2
    obtain ⟨⟨c0, c1, c2⟩, ⟨d0, d1, d2⟩, ⟨f0, f1, f2⟩, hbel⟩ := HT.out (w4.alloc (.cells #[.int .i64 k4, .int .i64 n4, .string s4] 23)) (HM4.out.alloc HM4.out.size (.cells #[.int .i64 k4, .int .i64 n4, .string s4] 23))
    obtain ⟨r1_0, r1_1, r1_2⟩ := R1.out.alloc (.cells #[.int .i64 k4, .int .i64 n4, .string s4] 23)
    obtain ⟨r2_0, r2_1, r2_2⟩ := R2.out.alloc (.cells #[.int .i64 k4, .int .i64 n4, .string s4] 23)
    obtain ⟨r3_0, r3_1, r3_2⟩ := R3.out.alloc (.cells #[.int .i64 k4, .int .i64 n4, .string s4] 23)
    obtain ⟨r4_0, r4_1, r4_2⟩ := Box.new w4 k4 n4 s4
    go_wp2_with fail
    refine (C5.out _).mono ?_
    rintro e w5 ⟨rfl, hb5⟩
    have HM5 := Lib.hid (below_step HM4.out hb5)
    replace R1 := Lib.hid ((R1.out.alloc _).up hb5)
    replace R2 := Lib.hid ((R2.out.alloc _).up hb5)
    replace R3 := Lib.hid ((R3.out.alloc _).up hb5)
    have R4 := Lib.hid ((Box.new w4 k4 n4 s4).up hb5)
    clear hb5 hbel c0 c1 c2 d0 d1 d2 f0 f1 f2 r1_0 r1_1 r1_2 r2_0 r2_1 r2_2 r3_0 r3_1 r3_2 r4_0 r4_1 r4_2
    obtain ⟨⟨c0, c1, c2⟩, ⟨d0, d1, d2⟩, ⟨f0, f1, f2⟩, hbel⟩ := HT.out (w5.alloc (.cells #[.int .i64 k4, .int .i64 n4, .string s4] 23)) (HM5.out.alloc HM5.out.size (.cells #[.int .i64 k4, .int .i64 n4, .string s4] 23))
    obtain ⟨r1_0, r1_1, r1_2⟩ := R1.out.alloc (.cells #[.int .i64 k4, .int .i64 n4, .string s4] 23)
    obtain ⟨r2_0, r2_1, r2_2⟩ := R2.out.alloc (.cells #[.int .i64 k4, .int .i64 n4, .string s4] 23)
    obtain ⟨r3_0, r3_1, r3_2⟩ := R3.out.alloc (.cells #[.int .i64 k4, .int .i64 n4, .string s4] 23)
    obtain ⟨r4_0, r4_1, r4_2⟩ := R4.out.alloc (.cells #[.int .i64 k4, .int .i64 n4, .string s4] 23)
    obtain ⟨r5_0, r5_1, r5_2⟩ := Box.new w5 k4 n4 s4
    by_cases hq4 : e4 = 0
    · obtain ⟨rfl, rfl, rfl, rfl, rfl, rfl, rfl⟩ := HF1.out hq4
      have hf2 := HF2.out hq4
      subst hq4
      have q8 := HQ.out k8 n8 s8
      go_wp2_with fail
      refine (C6.out _).mono ?_
      rintro e w6 ⟨rfl, hb6⟩
      have HM6 := Lib.hid (below_step HM5.out hb6)
      replace R1 := Lib.hid ((R1.out.alloc _).up hb6)
      replace R2 := Lib.hid ((R2.out.alloc _).up hb6)
      replace R3 := Lib.hid ((R3.out.alloc _).up hb6)
      replace R4 := Lib.hid ((R4.out.alloc _).up hb6)
      have R5 := Lib.hid ((Box.new w5 k4 n4 s4).up hb6)
      clear hb6 hbel c0 c1 c2 d0 d1 d2 f0 f1 f2 r1_0 r1_1 r1_2 r2_0 r2_1 r2_2 r3_0 r3_1 r3_2 r4_0 r4_1 r4_2 r5_0 r5_1 r5_2
      obtain ⟨⟨c0, c1, c2⟩, ⟨d0, d1, d2⟩, ⟨f0, f1, f2⟩, hbel⟩ := HT.out (w6.alloc (.cells #[.int .i64 k6, .int .i64 n6, .string s6] 23)) (HM6.out.alloc HM6.out.size (.cells #[.int .i64 k6, .int .i64 n6, .string s6] 23))
      obtain ⟨r1_0, r1_1, r1_2⟩ := R1.out.alloc (.cells #[.int .i64 k6, .int .i64 n6, .string s6] 23)
      obtain ⟨r2_0, r2_1, r2_2⟩ := R2.out.alloc (.cells #[.int .i64 k6, .int .i64 n6, .string s6] 23)
      obtain ⟨r3_0, r3_1, r3_2⟩ := R3.out.alloc (.cells #[.int .i64 k6, .int .i64 n6, .string s6] 23)
      obtain ⟨r4_0, r4_1, r4_2⟩ := R4.out.alloc (.cells #[.int .i64 k6, .int .i64 n6, .string s6] 23)
      obtain ⟨r5_0, r5_1, r5_2⟩ := R5.out.alloc (.cells #[.int .i64 k6, .int .i64 n6, .string s6] 23)
      obtain ⟨r6_0, r6_1, r6_2⟩ := Box.new w6 k6 n6 s6
      go_wp2_with fail
      refine (C7.out _).mono ?_
      rintro e w7 ⟨rfl, hb7⟩
      have HM7 := Lib.hid (below_step HM6.out hb7)
      replace R1 := Lib.hid ((R1.out.alloc _).up hb7)
      replace R2 := Lib.hid ((R2.out.alloc _).up hb7)
      replace R3 := Lib.hid ((R3.out.alloc _).up hb7)
      replace R4 := Lib.hid ((R4.out.alloc _).up hb7)
      replace R5 := Lib.hid ((R5.out.alloc _).up hb7)
      have R6 := Lib.hid ((Box.new w6 k6 n6 s6).up hb7)
      clear hb7 hbel c0 c1 c2 d0 d1 d2 f0 f1 f2 r1_0 r1_1 r1_2 r2_0 r2_1 r2_2 r3_0 r3_1 r3_2 r4_0 r4_1 r4_2 r5_0 r5_1 r5_2 r6_0 r6_1 r6_2
      obtain ⟨⟨c0, c1, c2⟩, ⟨d0, d1, d2⟩, ⟨f0, f1, f2⟩, hbel⟩ := HT.out (w7.alloc (.cells #[.int .i64 k7, .int .i64 n7, .string s7] 23)) (HM7.out.alloc HM7.out.size (.cells #[.int .i64 k7, .int .i64 n7, .string s7] 23))
      obtain ⟨r1_0, r1_1, r1_2⟩ := R1.out.alloc (.cells #[.int .i64 k7, .int .i64 n7, .string s7] 23)
      obtain ⟨r2_0, r2_1, r2_2⟩ := R2.out.alloc (.cells #[.int .i64 k7, .int .i64 n7, .string s7] 23)
      obtain ⟨r3_0, r3_1, r3_2⟩ := R3.out.alloc (.cells #[.int .i64 k7, .int .i64 n7, .string s7] 23)
      obtain ⟨r4_0, r4_1, r4_2⟩ := R4.out.alloc (.cells #[.int .i64 k7, .int .i64 n7, .string s7] 23)
      obtain ⟨r5_0, r5_1, r5_2⟩ := R5.out.alloc (.cells #[.int .i64 k7, .int .i64 n7, .string s7] 23)
      obtain ⟨r6_0, r6_1, r6_2⟩ := R6.out.alloc (.cells #[.int .i64 k7, .int .i64 n7, .string s7] 23)
      obtain ⟨r7_0, r7_1, r7_2⟩ := Box.new w7 k7 n7 s7
      go_wp2_with fail
      refine (C8.out _).mono ?_
      rintro e w8 ⟨rfl, hb8⟩
      have HM8 := Lib.hid (below_step HM7.out hb8)
      replace R1 := Lib.hid ((R1.out.alloc _).up hb8)
      replace R2 := Lib.hid ((R2.out.alloc _).up hb8)
      replace R3 := Lib.hid ((R3.out.alloc _).up hb8)
      replace R4 := Lib.hid ((R4.out.alloc _).up hb8)
      replace R5 := Lib.hid ((R5.out.alloc _).up hb8)
      replace R6 := Lib.hid ((R6.out.alloc _).up hb8)
      have R7 := Lib.hid ((Box.new w7 k7 n7 s7).up hb8)
      clear hb8 hbel c0 c1 c2 d0 d1 d2 f0 f1 f2 r1_0 r1_1 r1_2 r2_0 r2_1 r2_2 r3_0 r3_1 r3_2 r4_0 r4_1 r4_2 r5_0 r5_1 r5_2 r6_0 r6_1 r6_2 r7_0 r7_1 r7_2
      obtain ⟨⟨c0, c1, c2⟩, ⟨d0, d1, d2⟩, ⟨f0, f1, f2⟩, hbel⟩ := HT.out (w8.alloc (.cells #[.int .i64 k8, .int .i64 n8, .string s8] 23)) (HM8.out.alloc HM8.out.size (.cells #[.int .i64 k8, .int .i64 n8, .string s8] 23))
      obtain ⟨r1_0, r1_1, r1_2⟩ := R1.out.alloc (.cells #[.int .i64 k8, .int .i64 n8, .string s8] 23)
      obtain ⟨r2_0, r2_1, r2_2⟩ := R2.out.alloc (.cells #[.int .i64 k8, .int .i64 n8, .string s8] 23)
      obtain ⟨r3_0, r3_1, r3_2⟩ := R3.out.alloc (.cells #[.int .i64 k8, .int .i64 n8, .string s8] 23)
      obtain ⟨r4_0, r4_1, r4_2⟩ := R4.out.alloc (.cells #[.int .i64 k8, .int .i64 n8, .string s8] 23)
      obtain ⟨r5_0, r5_1, r5_2⟩ := R5.out.alloc (.cells #[.int .i64 k8, .int .i64 n8, .string s8] 23)
      obtain ⟨r6_0, r6_1, r6_2⟩ := R6.out.alloc (.cells #[.int .i64 k8, .int .i64 n8, .string s8] 23)
      obtain ⟨r7_0, r7_1, r7_2⟩ := R7.out.alloc (.cells #[.int .i64 k8, .int .i64 n8, .string s8] 23)
      obtain ⟨r8_0, r8_1, r8_2⟩ := Box.new w8 k8 n8 s8
      go_wp2_with fail
      refine (C9.out _).mono ?_
      rintro e w9 ⟨rfl, hb9⟩
      have HM9 := Lib.hid (below_step HM8.out hb9)
      replace R1 := Lib.hid ((R1.out.alloc _).up hb9)
      replace R2 := Lib.hid ((R2.out.alloc _).up hb9)
      replace R3 := Lib.hid ((R3.out.alloc _).up hb9)
      replace R4 := Lib.hid ((R4.out.alloc _).up hb9)
      replace R5 := Lib.hid ((R5.out.alloc _).up hb9)
      replace R6 := Lib.hid ((R6.out.alloc _).up hb9)
      replace R7 := Lib.hid ((R7.out.alloc _).up hb9)
      have R8 := Lib.hid ((Box.new w8 k8 n8 s8).up hb9)
      clear hb9 hbel c0 c1 c2 d0 d1 d2 f0 f1 f2 r1_0 r1_1 r1_2 r2_0 r2_1 r2_2 r3_0 r3_1 r3_2 r4_0 r4_1 r4_2 r5_0 r5_1 r5_2 r6_0 r6_1 r6_2 r7_0 r7_1 r7_2 r8_0 r8_1 r8_2
      obtain ⟨⟨c0, c1, c2⟩, ⟨d0, d1, d2⟩, ⟨f0, f1, f2⟩, hbel⟩ := HT.out (w9.alloc (.cells #[.int .i64 k8, .int .i64 n8, .string s8] 23)) (HM9.out.alloc HM9.out.size (.cells #[.int .i64 k8, .int .i64 n8, .string s8] 23))
      obtain ⟨r1_0, r1_1, r1_2⟩ := R1.out.alloc (.cells #[.int .i64 k8, .int .i64 n8, .string s8] 23)
      obtain ⟨r2_0, r2_1, r2_2⟩ := R2.out.alloc (.cells #[.int .i64 k8, .int .i64 n8, .string s8] 23)
      obtain ⟨r3_0, r3_1, r3_2⟩ := R3.out.alloc (.cells #[.int .i64 k8, .int .i64 n8, .string s8] 23)
      obtain ⟨r4_0, r4_1, r4_2⟩ := R4.out.alloc (.cells #[.int .i64 k8, .int .i64 n8, .string s8] 23)
      obtain ⟨r5_0, r5_1, r5_2⟩ := R5.out.alloc (.cells #[.int .i64 k8, .int .i64 n8, .string s8] 23)
      obtain ⟨r6_0, r6_1, r6_2⟩ := R6.out.alloc (.cells #[.int .i64 k8, .int .i64 n8, .string s8] 23)
      obtain ⟨r7_0, r7_1, r7_2⟩ := R7.out.alloc (.cells #[.int .i64 k8, .int .i64 n8, .string s8] 23)
      obtain ⟨r8_0, r8_1, r8_2⟩ := R8.out.alloc (.cells #[.int .i64 k8, .int .i64 n8, .string s8] 23)
      obtain ⟨r9_0, r9_1, r9_2⟩ := Box.new w9 k8 n8 s8
      go_wp2_with fail
      refine (C10.out _).mono ?_
      rintro e w10 ⟨rfl, hb10⟩
      have HM10 := Lib.hid (below_step HM9.out hb10)
      replace R1 := Lib.hid ((R1.out.alloc _).up hb10)
      replace R2 := Lib.hid ((R2.out.alloc _).up hb10)
      replace R3 := Lib.hid ((R3.out.alloc _).up hb10)
      replace R4 := Lib.hid ((R4.out.alloc _).up hb10)
      replace R5 := Lib.hid ((R5.out.alloc _).up hb10)
      replace R6 := Lib.hid ((R6.out.alloc _).up hb10)
      replace R7 := Lib.hid ((R7.out.alloc _).up hb10)
      replace R8 := Lib.hid ((R8.out.alloc _).up hb10)
      have R9 := Lib.hid ((Box.new w9 k8 n8 s8).up hb10)
      clear hb10 hbel c0 c1 c2 d0 d1 d2 f0 f1 f2 r1_0 r1_1 r1_2 r2_0 r2_1 r2_2 r3_0 r3_1 r3_2 r4_0 r4_1 r4_2 r5_0 r5_1 r5_2 r6_0 r6_1 r6_2 r7_0 r7_1 r7_2 r8_0 r8_1 r8_2 r9_0 r9_1 r9_2
      obtain ⟨⟨c0, c1, c2⟩, ⟨d0, d1, d2⟩, ⟨f0, f1, f2⟩, hbel⟩ := HT.out (w10.alloc (.cells #[.int .i64 k10, .int .i64 n10, .string s10] 23)) (HM10.out.alloc HM10.out.size (.cells #[.int .i64 k10, .int .i64 n10, .string s10] 23))
      obtain ⟨r1_0, r1_1, r1_2⟩ := R1.out.alloc (.cells #[.int .i64 k10, .int .i64 n10, .string s10] 23)
      obtain ⟨r2_0, r2_1, r2_2⟩ := R2.out.alloc (.cells #[.int .i64 k10, .int .i64 n10, .string s10] 23)
      obtain ⟨r3_0, r3_1, r3_2⟩ := R3.out.alloc (.cells #[.int .i64 k10, .int .i64 n10, .string s10] 23)
      obtain ⟨r4_0, r4_1, r4_2⟩ := R4.out.alloc (.cells #[.int .i64 k10, .int .i64 n10, .string s10] 23)
      obtain ⟨r5_0, r5_1, r5_2⟩ := R5.out.alloc (.cells #[.int .i64 k10, .int .i64 n10, .string s10] 23)
      obtain ⟨r6_0, r6_1, r6_2⟩ := R6.out.alloc (.cells #[.int .i64 k10, .int .i64 n10, .string s10] 23)
      obtain ⟨r7_0, r7_1, r7_2⟩ := R7.out.alloc (.cells #[.int .i64 k10, .int .i64 n10, .string s10] 23)
      obtain ⟨r8_0, r8_1, r8_2⟩ := R8.out.alloc (.cells #[.int .i64 k10, .int .i64 n10, .string s10] 23)
      obtain ⟨r9_0, r9_1, r9_2⟩ := R9.out.alloc (.cells #[.int .i64 k10, .int .i64 n10, .string s10] 23)
      obtain ⟨r10_0, r10_1, r10_2⟩ := Box.new w10 k10 n10 s10
      by_cases hq10 : e10 = 0
      · obtain ⟨rfl, rfl, rfl⟩ := hf2 hq10
        subst hq10
        have q11 := HQ.out k11 n11 s11
        go_wp2_with fail
        refine (C11.out _).mono ?_
        rintro e w11 ⟨rfl, hb11⟩
        have HM11 := Lib.hid (below_step HM10.out hb11)
        replace R1 := Lib.hid ((R1.out.alloc _).up hb11)
        replace R2 := Lib.hid ((R2.out.alloc _).up hb11)
        replace R3 := Lib.hid ((R3.out.alloc _).up hb11)
        replace R4 := Lib.hid ((R4.out.alloc _).up hb11)
        replace R5 := Lib.hid ((R5.out.alloc _).up hb11)
        replace R6 := Lib.hid ((R6.out.alloc _).up hb11)
        replace R7 := Lib.hid ((R7.out.alloc _).up hb11)
        replace R8 := Lib.hid ((R8.out.alloc _).up hb11)
        replace R9 := Lib.hid ((R9.out.alloc _).up hb11)
        have R10 := Lib.hid ((Box.new w10 k10 n10 s10).up hb11)
        clear hb11 hbel c0 c1 c2 d0 d1 d2 f0 f1 f2 r1_0 r1_1 r1_2 r2_0 r2_1 r2_2 r3_0 r3_1 r3_2 r4_0 r4_1 r4_2 r5_0 r5_1 r5_2 r6_0 r6_1 r6_2 r7_0 r7_1 r7_2 r8_0 r8_1 r8_2 r9_0 r9_1 r9_2 r10_0 r10_1 r10_2
        obtain ⟨⟨c0, c1, c2⟩, ⟨d0, d1, d2⟩, ⟨f0, f1, f2⟩, hbel⟩ := HT.out (w11.alloc (.cells #[.int .i64 k11, .int .i64 n11, .string s11] 23)) (HM11.out.alloc HM11.out.size (.cells #[.int .i64 k11, .int .i64 n11, .string s11] 23))
        obtain ⟨r1_0, r1_1, r1_2⟩ := R1.out.alloc (.cells #[.int .i64 k11, .int .i64 n11, .string s11] 23)
        obtain ⟨r2_0, r2_1, r2_2⟩ := R2.out.alloc (.cells #[.int .i64 k11, .int .i64 n11, .string s11] 23)
        obtain ⟨r3_0, r3_1, r3_2⟩ := R3.out.alloc (.cells #[.int .i64 k11, .int .i64 n11, .string s11] 23)
        obtain ⟨r4_0, r4_1, r4_2⟩ := R4.out.alloc (.cells #[.int .i64 k11, .int .i64 n11, .string s11] 23)
        obtain ⟨r5_0, r5_1, r5_2⟩ := R5.out.alloc (.cells #[.int .i64 k11, .int .i64 n11, .string s11] 23)
        obtain ⟨r6_0, r6_1, r6_2⟩ := R6.out.alloc (.cells #[.int .i64 k11, .int .i64 n11, .string s11] 23)
        obtain ⟨r7_0, r7_1, r7_2⟩ := R7.out.alloc (.cells #[.int .i64 k11, .int .i64 n11, .string s11] 23)
        obtain ⟨r8_0, r8_1, r8_2⟩ := R8.out.alloc (.cells #[.int .i64 k11, .int .i64 n11, .string s11] 23)
        obtain ⟨r9_0, r9_1, r9_2⟩ := R9.out.alloc (.cells #[.int .i64 k11, .int .i64 n11, .string s11] 23)
        obtain ⟨r10_0, r10_1, r10_2⟩ := R10.out.alloc (.cells #[.int .i64 k11, .int .i64 n11, .string s11] 23)
        obtain ⟨r11_0, r11_1, r11_2⟩ := Box.new w11 k11 n11 s11
        go_wp2_with fail
        refine (C12.out _).mono ?_
        rintro e w12 ⟨rfl, hb12⟩
        have HM12 := Lib.hid (below_step HM11.out hb12)
        replace R1 := Lib.hid ((R1.out.alloc _).up hb12)
        replace R2 := Lib.hid ((R2.out.alloc _).up hb12)
        replace R3 := Lib.hid ((R3.out.alloc _).up hb12)
        replace R4 := Lib.hid ((R4.out.alloc _).up hb12)
        replace R5 := Lib.hid ((R5.out.alloc _).up hb12)
        replace R6 := Lib.hid ((R6.out.alloc _).up hb12)
        replace R7 := Lib.hid ((R7.out.alloc _).up hb12)
        replace R8 := Lib.hid ((R8.out.alloc _).up hb12)
        replace R9 := Lib.hid ((R9.out.alloc _).up hb12)
        replace R10 := Lib.hid ((R10.out.alloc _).up hb12)
        have R11 := Lib.hid ((Box.new w11 k11 n11 s11).up hb12)
        clear hb12 hbel c0 c1 c2 d0 d1 d2 f0 f1 f2 r1_0 r1_1 r1_2 r2_0 r2_1 r2_2 r3_0 r3_1 r3_2 r4_0 r4_1 r4_2 r5_0 r5_1 r5_2 r6_0 r6_1 r6_2 r7_0 r7_1 r7_2 r8_0 r8_1 r8_2 r9_0 r9_1 r9_2 r10_0 r10_1 r10_2 r11_0 r11_1 r11_2
        obtain ⟨⟨c0, c1, c2⟩, ⟨d0, d1, d2⟩, ⟨f0, f1, f2⟩, hbel⟩ := HT.out (w12.alloc (.cells #[.int .i64 k11, .int .i64 n11, .string s11] 23)) (HM12.out.alloc HM12.out.size (.cells #[.int .i64 k11, .int .i64 n11, .string s11] 23))
        obtain ⟨r1_0, r1_1, r1_2⟩ := R1.out.alloc (.cells #[.int .i64 k11, .int .i64 n11, .string s11] 23)
        obtain ⟨r2_0, r2_1, r2_2⟩ := R2.out.alloc (.cells #[.int .i64 k11, .int .i64 n11, .string s11] 23)
        obtain ⟨r3_0, r3_1, r3_2⟩ := R3.out.alloc (.cells #[.int .i64 k11, .int .i64 n11, .string s11] 23)
        obtain ⟨r4_0, r4_1, r4_2⟩ := R4.out.alloc (.cells #[.int .i64 k11, .int .i64 n11, .string s11] 23)
        obtain ⟨r5_0, r5_1, r5_2⟩ := R5.out.alloc (.cells #[.int .i64 k11, .int .i64 n11, .string s11] 23)
        obtain ⟨r6_0, r6_1, r6_2⟩ := R6.out.alloc (.cells #[.int .i64 k11, .int .i64 n11, .string s11] 23)
        obtain ⟨r7_0, r7_1, r7_2⟩ := R7.out.alloc (.cells #[.int .i64 k11, .int .i64 n11, .string s11] 23)
        obtain ⟨r8_0, r8_1, r8_2⟩ := R8.out.alloc (.cells #[.int .i64 k11, .int .i64 n11, .string s11] 23)
        obtain ⟨r9_0, r9_1, r9_2⟩ := R9.out.alloc (.cells #[.int .i64 k11, .int .i64 n11, .string s11] 23)
        obtain ⟨r10_0, r10_1, r10_2⟩ := R10.out.alloc (.cells #[.int .i64 k11, .int .i64 n11, .string s11] 23)
        obtain ⟨r11_0, r11_1, r11_2⟩ := R11.out.alloc (.cells #[.int .i64 k11, .int .i64 n11, .string s11] 23)
        obtain ⟨r12_0, r12_1, r12_2⟩ := Box.new w12 k11 n11 s11
        go_wp2_with fail
        refine (HA.out _ (HW.out.below hbel)).mono ?_
        rintro e w13 ⟨rfl, hb13⟩
        have HB := Lib.hid (below_trans hbel hb13)
        clear hb13 hbel
        go_wp2
        go_ret
        exact ⟨rfl, HB.out⟩
      · have hn10 : (e10 == 0) = false := by simpa using hq10
        clear hf2
        go_wp2_with fail
        refine (HA.out _ (HW.out.below hbel)).mono ?_
        rintro e w11 ⟨rfl, hb11⟩
        have HB := Lib.hid (below_trans hbel hb11)
        clear hb11 hbel
        go_wp2
        go_ret
        exact ⟨rfl, HB.out⟩
    · have hn4 : (e4 == 0) = false := by simpa using hq4
      go_wp2_with fail
      refine (HA.out _ (HW.out.below hbel)).mono ?_
      rintro e w6 ⟨rfl, hb6⟩
      have HB := Lib.hid (below_trans hbel hb6)
      clear hb6 hbel
      go_wp2
      go_ret
      exact ⟨rfl, HB.out⟩
  · have hn1 : (e1 == 0) = false := by simpa using hq1
    go_wp2_with fail
    refine (C4.out _).mono ?_
    rintro e w4 ⟨rfl, hb4⟩
    have HM4 := Lib.hid (below_step HM3.out hb4)
    replace R1 := Lib.hid ((R1.out.alloc _).up hb4)
    replace R2 := Lib.hid ((R2.out.alloc _).up hb4)
    have R3 := Lib.hid ((Box.new w3 k2 n2 s2).up hb4)
    clear hb4 hbel c0 c1 c2 d0 d1 d2 f0 f1 f2 r1_0 r1_1 r1_2 r2_0 r2_1 r2_2 r3_0 r3_1 r3_2
    obtain ⟨⟨c0, c1, c2⟩, ⟨d0, d1, d2⟩, ⟨f0, f1, f2⟩, hbel⟩ := HT.out (w4.alloc (.cells #[.int .i64 k4, .int .i64 n4, .string s4] 23)) (HM4.out.alloc HM4.out.size (.cells #[.int .i64 k4, .int .i64 n4, .string s4] 23))
    obtain ⟨r1_0, r1_1, r1_2⟩ := R1.out.alloc (.cells #[.int .i64 k4, .int .i64 n4, .string s4] 23)
    obtain ⟨r2_0, r2_1, r2_2⟩ := R2.out.alloc (.cells #[.int .i64 k4, .int .i64 n4, .string s4] 23)
    obtain ⟨r3_0, r3_1, r3_2⟩ := R3.out.alloc (.cells #[.int .i64 k4, .int .i64 n4, .string s4] 23)
    obtain ⟨r4_0, r4_1, r4_2⟩ := Box.new w4 k4 n4 s4
    go_wp2_with fail
    refine (C5.out _).mono ?_
    rintro e w5 ⟨rfl, hb5⟩
    have HM5 := Lib.hid (below_step HM4.out hb5)
    replace R1 := Lib.hid ((R1.out.alloc _).up hb5)
    replace R2 := Lib.hid ((R2.out.alloc _).up hb5)
    replace R3 := Lib.hid ((R3.out.alloc _).up hb5)
    have R4 := Lib.hid ((Box.new w4 k4 n4 s4).up hb5)
    clear hb5 hbel c0 c1 c2 d0 d1 d2 f0 f1 f2 r1_0 r1_1 r1_2 r2_0 r2_1 r2_2 r3_0 r3_1 r3_2 r4_0 r4_1 r4_2
    obtain ⟨⟨c0, c1, c2⟩, ⟨d0, d1, d2⟩, ⟨f0, f1, f2⟩, hbel⟩ := HT.out (w5.alloc (.cells #[.int .i64 k4, .int .i64 n4, .string s4] 23)) (HM5.out.alloc HM5.out.size (.cells #[.int .i64 k4, .int .i64 n4, .string s4] 23))
    obtain ⟨r1_0, r1_1, r1_2⟩ := R1.out.alloc (.cells #[.int .i64 k4, .int .i64 n4, .string s4] 23)
    obtain ⟨r2_0, r2_1, r2_2⟩ := R2.out.alloc (.cells #[.int .i64 k4, .int .i64 n4, .string s4] 23)
    obtain ⟨r3_0, r3_1, r3_2⟩ := R3.out.alloc (.cells #[.int .i64 k4, .int .i64 n4, .string s4] 23)
    obtain ⟨r4_0, r4_1, r4_2⟩ := R4.out.alloc (.cells #[.int .i64 k4, .int .i64 n4, .string s4] 23)
    obtain ⟨r5_0, r5_1, r5_2⟩ := Box.new w5 k4 n4 s4
    by_cases hq4 : e4 = 0
    · obtain ⟨rfl, rfl, rfl, rfl, rfl, rfl, rfl⟩ := HF1.out hq4
      have hf2 := HF2.out hq4
      subst hq4
      have q8 := HQ.out k8 n8 s8
      go_wp2_with fail
      refine (C6.out _).mono ?_
      rintro e w6 ⟨rfl, hb6⟩
      have HM6 := Lib.hid (below_step HM5.out hb6)
      replace R1 := Lib.hid ((R1.out.alloc _).up hb6)
      replace R2 := Lib.hid ((R2.out.alloc _).up hb6)
      replace R3 := Lib.hid ((R3.out.alloc _).up hb6)
      replace R4 := Lib.hid ((R4.out.alloc _).up hb6)
      have R5 := Lib.hid ((Box.new w5 k4 n4 s4).up hb6)
      clear hb6 hbel c0 c1 c2 d0 d1 d2 f0 f1 f2 r1_0 r1_1 r1_2 r2_0 r2_1 r2_2 r3_0 r3_1 r3_2 r4_0 r4_1 r4_2 r5_0 r5_1 r5_2
      obtain ⟨⟨c0, c1, c2⟩, ⟨d0, d1, d2⟩, ⟨f0, f1, f2⟩, hbel⟩ := HT.out (w6.alloc (.cells #[.int .i64 k6, .int .i64 n6, .string s6] 23)) (HM6.out.alloc HM6.out.size (.cells #[.int .i64 k6, .int .i64 n6, .string s6] 23))
      obtain ⟨r1_0, r1_1, r1_2⟩ := R1.out.alloc (.cells #[.int .i64 k6, .int .i64 n6, .string s6] 23)
      obtain ⟨r2_0, r2_1, r2_2⟩ := R2.out.alloc (.cells #[.int .i64 k6, .int .i64 n6, .string s6] 23)
      obtain ⟨r3_0, r3_1, r3_2⟩ := R3.out.alloc (.cells #[.int .i64 k6, .int .i64 n6, .string s6] 23)
      obtain ⟨r4_0, r4_1, r4_2⟩ := R4.out.alloc (.cells #[.int .i64 k6, .int .i64 n6, .string s6] 23)
      obtain ⟨r5_0, r5_1, r5_2⟩ := R5.out.alloc (.cells #[.int .i64 k6, .int .i64 n6, .string s6] 23)
      obtain ⟨r6_0, r6_1, r6_2⟩ := Box.new w6 k6 n6 s6
      go_wp2_with fail
      refine (C7.out _).mono ?_
      rintro e w7 ⟨rfl, hb7⟩
      have HM7 := Lib.hid (below_step HM6.out hb7)
      replace R1 := Lib.hid ((R1.out.alloc _).up hb7)
      replace R2 := Lib.hid ((R2.out.alloc _).up hb7)
      replace R3 := Lib.hid ((R3.out.alloc _).up hb7)
      replace R4 := Lib.hid ((R4.out.alloc _).up hb7)
      replace R5 := Lib.hid ((R5.out.alloc _).up hb7)
      have R6 := Lib.hid ((Box.new w6 k6 n6 s6).up hb7)
      clear hb7 hbel c0 c1 c2 d0 d1 d2 f0 f1 f2 r1_0 r1_1 r1_2 r2_0 r2_1 r2_2 r3_0 r3_1 r3_2 r4_0 r4_1 r4_2 r5_0 r5_1 r5_2 r6_0 r6_1 r6_2
      obtain ⟨⟨c0, c1, c2⟩, ⟨d0, d1, d2⟩, ⟨f0, f1, f2⟩, hbel⟩ := HT.out (w7.alloc (.cells #[.int .i64 k7, .int .i64 n7, .string s7] 23)) (HM7.out.alloc HM7.out.size (.cells #[.int .i64 k7, .int .i64 n7, .string s7] 23))
      obtain ⟨r1_0, r1_1, r1_2⟩ := R1.out.alloc (.cells #[.int .i64 k7, .int .i64 n7, .string s7] 23)
      obtain ⟨r2_0, r2_1, r2_2⟩ := R2.out.alloc (.cells #[.int .i64 k7, .int .i64 n7, .string s7] 23)
      obtain ⟨r3_0, r3_1, r3_2⟩ := R3.out.alloc (.cells #[.int .i64 k7, .int .i64 n7, .string s7] 23)
      obtain ⟨r4_0, r4_1, r4_2⟩ := R4.out.alloc (.cells #[.int .i64 k7, .int .i64 n7, .string s7] 23)
      obtain ⟨r5_0, r5_1, r5_2⟩ := R5.out.alloc (.cells #[.int .i64 k7, .int .i64 n7, .string s7] 23)
      obtain ⟨r6_0, r6_1, r6_2⟩ := R6.out.alloc (.cells #[.int .i64 k7, .int .i64 n7, .string s7] 23)
      obtain ⟨r7_0, r7_1, r7_2⟩ := Box.new w7 k7 n7 s7
      go_wp2_with fail
      refine (C8.out _).mono ?_
      rintro e w8 ⟨rfl, hb8⟩
      have HM8 := Lib.hid (below_step HM7.out hb8)
      replace R1 := Lib.hid ((R1.out.alloc _).up hb8)
      replace R2 := Lib.hid ((R2.out.alloc _).up hb8)
      replace R3 := Lib.hid ((R3.out.alloc _).up hb8)
      replace R4 := Lib.hid ((R4.out.alloc _).up hb8)
      replace R5 := Lib.hid ((R5.out.alloc _).up hb8)
      replace R6 := Lib.hid ((R6.out.alloc _).up hb8)
      have R7 := Lib.hid ((Box.new w7 k7 n7 s7).up hb8)
      clear hb8 hbel c0 c1 c2 d0 d1 d2 f0 f1 f2 r1_0 r1_1 r1_2 r2_0 r2_1 r2_2 r3_0 r3_1 r3_2 r4_0 r4_1 r4_2 r5_0 r5_1 r5_2 r6_0 r6_1 r6_2 r7_0 r7_1 r7_2
      obtain ⟨⟨c0, c1, c2⟩, ⟨d0, d1, d2⟩, ⟨f0, f1, f2⟩, hbel⟩ := HT.out (w8.alloc (.cells #[.int .i64 k8, .int .i64 n8, .string s8] 23)) (HM8.out.alloc HM8.out.size (.cells #[.int .i64 k8, .int .i64 n8, .string s8] 23))
      obtain ⟨r1_0, r1_1, r1_2⟩ := R1.out.alloc (.cells #[.int .i64 k8, .int .i64 n8, .string s8] 23)
      obtain ⟨r2_0, r2_1, r2_2⟩ := R2.out.alloc (.cells #[.int .i64 k8, .int .i64 n8, .string s8] 23)
      obtain ⟨r3_0, r3_1, r3_2⟩ := R3.out.alloc (.cells #[.int .i64 k8, .int .i64 n8, .string s8] 23)
      obtain ⟨r4_0, r4_1, r4_2⟩ := R4.out.alloc (.cells #[.int .i64 k8, .int .i64 n8, .string s8] 23)
      obtain ⟨r5_0, r5_1, r5_2⟩ := R5.out.alloc (.cells #[.int .i64 k8, .int .i64 n8, .string s8] 23)
      obtain ⟨r6_0, r6_1, r6_2⟩ := R6.out.alloc (.cells #[.int .i64 k8, .int .i64 n8, .string s8] 23)
      obtain ⟨r7_0, r7_1, r7_2⟩ := R7.out.alloc (.cells #[.int .i64 k8, .int .i64 n8, .string s8] 23)
      obtain ⟨r8_0, r8_1, r8_2⟩ := Box.new w8 k8 n8 s8
      go_wp2_with fail
      refine (C9.out _).mono ?_
      rintro e w9 ⟨rfl, hb9⟩
      have HM9 := Lib.hid (below_step HM8.out hb9)
      replace R1 := Lib.hid ((R1.out.alloc _).up hb9)
      replace R2 := Lib.hid ((R2.out.alloc _).up hb9)
      replace R3 := Lib.hid ((R3.out.alloc _).up hb9)
      replace R4 := Lib.hid ((R4.out.alloc _).up hb9)
      replace R5 := Lib.hid ((R5.out.alloc _).up hb9)
      replace R6 := Lib.hid ((R6.out.alloc _).up hb9)
      replace R7 := Lib.hid ((R7.out.alloc _).up hb9)
      have R8 := Lib.hid ((Box.new w8 k8 n8 s8).up hb9)
      clear hb9 hbel c0 c1 c2 d0 d1 d2 f0 f1 f2 r1_0 r1_1 r1_2 r2_0 r2_1 r2_2 r3_0 r3_1 r3_2 r4_0 r4_1 r4_2 r5_0 r5_1 r5_2 r6_0 r6_1 r6_2 r7_0 r7_1 r7_2 r8_0 r8_1 r8_2
      obtain ⟨⟨c0, c1, c2⟩, ⟨d0, d1, d2⟩, ⟨f0, f1, f2⟩, hbel⟩ := HT.out (w9.alloc (.cells #[.int .i64 k8, .int .i64 n8, .string s8] 23)) (HM9.out.alloc HM9.out.size (.cells #[.int .i64 k8, .int .i64 n8, .string s8] 23))
      obtain ⟨r1_0, r1_1, r1_2⟩ := R1.out.alloc (.cells #[.int .i64 k8, .int .i64 n8, .string s8] 23)
      obtain ⟨r2_0, r2_1, r2_2⟩ := R2.out.alloc (.cells #[.int .i64 k8, .int .i64 n8, .string s8] 23)
      obtain ⟨r3_0, r3_1, r3_2⟩ := R3.out.alloc (.cells #[.int .i64 k8, .int .i64 n8, .string s8] 23)
      obtain ⟨r4_0, r4_1, r4_2⟩ := R4.out.alloc (.cells #[.int .i64 k8, .int .i64 n8, .string s8] 23)
      obtain ⟨r5_0, r5_1, r5_2⟩ := R5.out.alloc (.cells #[.int .i64 k8, .int .i64 n8, .string s8] 23)
      obtain ⟨r6_0, r6_1, r6_2⟩ := R6.out.alloc (.cells #[.int .i64 k8, .int .i64 n8, .string s8] 23)
      obtain ⟨r7_0, r7_1, r7_2⟩ := R7.out.alloc (.cells #[.int .i64 k8, .int .i64 n8, .string s8] 23)
      obtain ⟨r8_0, r8_1, r8_2⟩ := R8.out.alloc (.cells #[.int .i64 k8, .int .i64 n8, .string s8] 23)
      obtain ⟨r9_0, r9_1, r9_2⟩ := Box.new w9 k8 n8 s8
      go_wp2_with fail
      refine (C10.out _).mono ?_
      rintro e w10 ⟨rfl, hb10⟩
      have HM10 := Lib.hid (below_step HM9.out hb10)
      replace R1 := Lib.hid ((R1.out.alloc _).up hb10)
      replace R2 := Lib.hid ((R2.out.alloc _).up hb10)
      replace R3 := Lib.hid ((R3.out.alloc _).up hb10)
      replace R4 := Lib.hid ((R4.out.alloc _).up hb10)
      replace R5 := Lib.hid ((R5.out.alloc _).up hb10)
      replace R6 := Lib.hid ((R6.out.alloc _).up hb10)
      replace R7 := Lib.hid ((R7.out.alloc _).up hb10)
      replace R8 := Lib.hid ((R8.out.alloc _).up hb10)
      have R9 := Lib.hid ((Box.new w9 k8 n8 s8).up hb10)
      clear hb10 hbel c0 c1 c2 d0 d1 d2 f0 f1 f2 r1_0 r1_1 r1_2 r2_0 r2_1 r2_2 r3_0 r3_1 r3_2 r4_0 r4_1 r4_2 r5_0 r5_1 r5_2 r6_0 r6_1 r6_2 r7_0 r7_1 r7_2 r8_0 r8_1 r8_2 r9_0 r9_1 r9_2
      obtain ⟨⟨c0, c1, c2⟩, ⟨d0, d1, d2⟩, ⟨f0, f1, f2⟩, hbel⟩ := HT.out (w10.alloc (.cells #[.int .i64 k10, .int .i64 n10, .string s10] 23)) (HM10.out.alloc HM10.out.size (.cells #[.int .i64 k10, .int .i64 n10, .string s10] 23))
      obtain ⟨r1_0, r1_1, r1_2⟩ := R1.out.alloc (.cells #[.int .i64 k10, .int .i64 n10, .string s10] 23)
      obtain ⟨r2_0, r2_1, r2_2⟩ := R2.out.alloc (.cells #[.int .i64 k10, .int .i64 n10, .string s10] 23)
      obtain ⟨r3_0, r3_1, r3_2⟩ := R3.out.alloc (.cells #[.int .i64 k10, .int .i64 n10, .string s10] 23)
      obtain ⟨r4_0, r4_1, r4_2⟩ := R4.out.alloc (.cells #[.int .i64 k10, .int .i64 n10, .string s10] 23)
      obtain ⟨r5_0, r5_1, r5_2⟩ := R5.out.alloc (.cells #[.int .i64 k10, .int .i64 n10, .string s10] 23)
      obtain ⟨r6_0, r6_1, r6_2⟩ := R6.out.alloc (.cells #[.int .i64 k10, .int .i64 n10, .string s10] 23)
      obtain ⟨r7_0, r7_1, r7_2⟩ := R7.out.alloc (.cells #[.int .i64 k10, .int .i64 n10, .string s10] 23)
      obtain ⟨r8_0, r8_1, r8_2⟩ := R8.out.alloc (.cells #[.int .i64 k10, .int .i64 n10, .string s10] 23)
      obtain ⟨r9_0, r9_1, r9_2⟩ := R9.out.alloc (.cells #[.int .i64 k10, .int .i64 n10, .string s10] 23)
      obtain ⟨r10_0, r10_1, r10_2⟩ := Box.new w10 k10 n10 s10
      by_cases hq10 : e10 = 0
      · obtain ⟨rfl, rfl, rfl⟩ := hf2 hq10
        subst hq10
        have q11 := HQ.out k11 n11 s11
        go_wp2_with fail
        refine (C11.out _).mono ?_
        rintro e w11 ⟨rfl, hb11⟩
        have HM11 := Lib.hid (below_step HM10.out hb11)
        replace R1 := Lib.hid ((R1.out.alloc _).up hb11)
        replace R2 := Lib.hid ((R2.out.alloc _).up hb11)
        replace R3 := Lib.hid ((R3.out.alloc _).up hb11)
        replace R4 := Lib.hid ((R4.out.alloc _).up hb11)
        replace R5 := Lib.hid ((R5.out.alloc _).up hb11)
        replace R6 := Lib.hid ((R6.out.alloc _).up hb11)
        replace R7 := Lib.hid ((R7.out.alloc _).up hb11)
        replace R8 := Lib.hid ((R8.out.alloc _).up hb11)
        replace R9 := Lib.hid ((R9.out.alloc _).up hb11)
        have R10 := Lib.hid ((Box.new w10 k10 n10 s10).up hb11)
        clear hb11 hbel c0 c1 c2 d0 d1 d2 f0 f1 f2 r1_0 r1_1 r1_2 r2_0 r2_1 r2_2 r3_0 r3_1 r3_2 r4_0 r4_1 r4_2 r5_0 r5_1 r5_2 r6_0 r6_1 r6_2 r7_0 r7_1 r7_2 r8_0 r8_1 r8_2 r9_0 r9_1 r9_2 r10_0 r10_1 r10_2
        obtain ⟨⟨c0, c1, c2⟩, ⟨d0, d1, d2⟩, ⟨f0, f1, f2⟩, hbel⟩ := HT.out (w11.alloc (.cells #[.int .i64 k11, .int .i64 n11, .string s11] 23)) (HM11.out.alloc HM11.out.size (.cells #[.int .i64 k11, .int .i64 n11, .string s11] 23))
        obtain ⟨r1_0, r1_1, r1_2⟩ := R1.out.alloc (.cells #[.int .i64 k11, .int .i64 n11, .string s11] 23)
        obtain ⟨r2_0, r2_1, r2_2⟩ := R2.out.alloc (.cells #[.int .i64 k11, .int .i64 n11, .string s11] 23)
        obtain ⟨r3_0, r3_1, r3_2⟩ := R3.out.alloc (.cells #[.int .i64 k11, .int .i64 n11, .string s11] 23)
        obtain ⟨r4_0, r4_1, r4_2⟩ := R4.out.alloc (.cells #[.int .i64 k11, .int .i64 n11, .string s11] 23)
        obtain ⟨r5_0, r5_1, r5_2⟩ := R5.out.alloc (.cells #[.int .i64 k11, .int .i64 n11, .string s11] 23)
        obtain ⟨r6_0, r6_1, r6_2⟩ := R6.out.alloc (.cells #[.int .i64 k11, .int .i64 n11, .string s11] 23)
        obtain ⟨r7_0, r7_1, r7_2⟩ := R7.out.alloc (.cells #[.int .i64 k11, .int .i64 n11, .string s11] 23)
        obtain ⟨r8_0, r8_1, r8_2⟩ := R8.out.alloc (.cells #[.int .i64 k11, .int .i64 n11, .string s11] 23)
        obtain ⟨r9_0, r9_1, r9_2⟩ := R9.out.alloc (.cells #[.int .i64 k11, .int .i64 n11, .string s11] 23)
        obtain ⟨r10_0, r10_1, r10_2⟩ := R10.out.alloc (.cells #[.int .i64 k11, .int .i64 n11, .string s11] 23)
        obtain ⟨r11_0, r11_1, r11_2⟩ := Box.new w11 k11 n11 s11
        go_wp2_with fail
        refine (C12.out _).mono ?_
        rintro e w12 ⟨rfl, hb12⟩
        have HM12 := Lib.hid (below_step HM11.out hb12)
        replace R1 := Lib.hid ((R1.out.alloc _).up hb12)
        replace R2 := Lib.hid ((R2.out.alloc _).up hb12)
        replace R3 := Lib.hid ((R3.out.alloc _).up hb12)
        replace R4 := Lib.hid ((R4.out.alloc _).up hb12)
        replace R5 := Lib.hid ((R5.out.alloc _).up hb12)
        replace R6 := Lib.hid ((R6.out.alloc _).up hb12)
        replace R7 := Lib.hid ((R7.out.alloc _).up hb12)
        replace R8 := Lib.hid ((R8.out.alloc _).up hb12)
        replace R9 := Lib.hid ((R9.out.alloc _).up hb12)
        replace R10 := Lib.hid ((R10.out.alloc _).up hb12)
        have R11 := Lib.hid ((Box.new w11 k11 n11 s11).up hb12)
        clear hb12 hbel c0 c1 c2 d0 d1 d2 f0 f1 f2 r1_0 r1_1 r1_2 r2_0 r2_1 r2_2 r3_0 r3_1 r3_2 r4_0 r4_1 r4_2 r5_0 r5_1 r5_2 r6_0 r6_1 r6_2 r7_0 r7_1 r7_2 r8_0 r8_1 r8_2 r9_0 r9_1 r9_2 r10_0 r10_1 r10_2 r11_0 r11_1 r11_2
        obtain ⟨⟨c0, c1, c2⟩, ⟨d0, d1, d2⟩, ⟨f0, f1, f2⟩, hbel⟩ := HT.out (w12.alloc (.cells #[.int .i64 k11, .int .i64 n11, .string s11] 23)) (HM12.out.alloc HM12.out.size (.cells #[.int .i64 k11, .int .i64 n11, .string s11] 23))
        obtain ⟨r1_0, r1_1, r1_2⟩ := R1.out.alloc (.cells #[.int .i64 k11, .int .i64 n11, .string s11] 23)
        obtain ⟨r2_0, r2_1, r2_2⟩ := R2.out.alloc (.cells #[.int .i64 k11, .int .i64 n11, .string s11] 23)
        obtain ⟨r3_0, r3_1, r3_2⟩ := R3.out.alloc (.cells #[.int .i64 k11, .int .i64 n11, .string s11] 23)
        obtain ⟨r4_0, r4_1, r4_2⟩ := R4.out.alloc (.cells #[.int .i64 k11, .int .i64 n11, .string s11] 23)
        obtain ⟨r5_0, r5_1, r5_2⟩ := R5.out.alloc (.cells #[.int .i64 k11, .int .i64 n11, .string s11] 23)
        obtain ⟨r6_0, r6_1, r6_2⟩ := R6.out.alloc (.cells #[.int .i64 k11, .int .i64 n11, .string s11] 23)
        obtain ⟨r7_0, r7_1, r7_2⟩ := R7.out.alloc (.cells #[.int .i64 k11, .int .i64 n11, .string s11] 23)
        obtain ⟨r8_0, r8_1, r8_2⟩ := R8.out.alloc (.cells #[.int .i64 k11, .int .i64 n11, .string s11] 23)
        obtain ⟨r9_0, r9_1, r9_2⟩ := R9.out.alloc (.cells #[.int .i64 k11, .int .i64 n11, .string s11] 23)
        obtain ⟨r10_0, r10_1, r10_2⟩ := R10.out.alloc (.cells #[.int .i64 k11, .int .i64 n11, .string s11] 23)
        obtain ⟨r11_0, r11_1, r11_2⟩ := R11.out.alloc (.cells #[.int .i64 k11, .int .i64 n11, .string s11] 23)
        obtain ⟨r12_0, r12_1, r12_2⟩ := Box.new w12 k11 n11 s11
        go_wp2_with fail
        refine (HA.out _ (HW.out.below hbel)).mono ?_
        rintro e w13 ⟨rfl, hb13⟩
        have HB := Lib.hid (below_trans hbel hb13)
        clear hb13 hbel
        go_wp2
        go_ret
        exact ⟨rfl, HB.out⟩
      · have hn10 : (e10 == 0) = false := by simpa using hq10
        clear hf2
        go_wp2_with fail
        refine (HA.out _ (HW.out.below hbel)).mono ?_
        rintro e w11 ⟨rfl, hb11⟩
        have HB := Lib.hid (below_trans hbel hb11)
        clear hb11 hbel
        go_wp2
        go_ret
        exact ⟨rfl, HB.out⟩
    · have hn4 : (e4 == 0) = false := by simpa using hq4
      go_wp2_with fail
      refine (HA.out _ (HW.out.below hbel)).mono ?_
      rintro e w6 ⟨rfl, hb6⟩
      have HB := Lib.hid (below_trans hbel hb6)
      clear hb6 hbel
      go_wp2
      go_ret
      exact ⟨rfl, HB.out⟩
end Go.Proofs.YtjfpkjpicalfmaaDoor.valueThree
