/-
  THE WALK OF ValueHolds.
-/
import Derived.Test.YtjfpkjpicalfmaaDoorKit
import Derived.Test.YtjfpkjpicalfmaaDoorWalkH
import Derived.Test.YtjfpkjpicalfmaaDoorWalkI
import Derived.Test.YtjfpkjpicalfmaaDoorWalkJ
namespace Go.Proofs.YtjfpkjpicalfmaaDoor.valueHolds
open Go.RowKit Go.Sort
attribute [local go_sem high] run_eq23 run_neq23 run_eq9

theorem six (w : World) (x1 x2 x3 x4 x5 x6 : V) : Vs (w.alloc (.cells #[.int .i64 x1.k, .int .i64 x1.n, .string x1.s, .int .i64 x2.k, .int .i64 x2.n, .string x2.s, .int .i64 x3.k, .int .i64 x3.n, .string x3.s, .int .i64 x4.k, .int .i64 x4.n, .string x4.s, .int .i64 x5.k, .int .i64 x5.n, .string x5.s, .int .i64 x6.k, .int .i64 x6.n, .string x6.s] 23)) w.heap.size [x1, x2, x3, x4, x5, x6] := by
  intro i v hv
  have hi : i = 0 ∨ i = 1 ∨ i = 2 ∨ i = 3 ∨ i = 4 ∨ i = 5 := by
    have : i < 6 := by
      rcases Nat.lt_or_ge i 6 with h | h
      · exact h
      · rw [List.getElem?_eq_none (by simpa using h)] at hv; cases hv
    omega
  rcases hi with rfl | rfl | rfl | rfl | rfl | rfl
  all_goals
    simp at hv; subst hv
    refine ⟨?_, ?_, ?_⟩ <;> go_simp
theorem six_told (w : World) (e : Int) : ∀ j, j < 6 → (w.alloc (.cells #[.int .i64 e, .int .i64 e, .int .i64 e, .int .i64 e, .int .i64 e, .int .i64 e] 24)).cell? ⟨w.heap.size, j, none⟩ = some (.int .i64 e) := by
  intro j hj
  have hi : j = 0 ∨ j = 1 ∨ j = 2 ∨ j = 3 ∨ j = 4 ∨ j = 5 := by omega
  rcases hi with rfl | rfl | rfl | rfl | rfl | rfl <;> go_simp

set_option maxRecDepth 100000 in
set_option maxHeartbeats 16000000 in
theorem walked (a b : V) (w : World) (ha : VOk a) (hb : VOk b) (hw : Sm w) :
    Calls Tryd.prog 4 #[a.agg, b.agg] w fun e w' => e = .returned (.bool true) ∧ Below w.heap.size w w' := by
  have C1 := Lib.hid (eq_any a b ha.s hb.s)
  have C2 := Lib.hid (ne_any a b ha.s hb.s)
  have C3 := Lib.hid (lt_any a b ha.s hb.s)
  have C4 := Lib.hid (le_any a b ha.s hb.s)
  have C5 := Lib.hid (gt_any a b ha.s hb.s)
  have C6 := Lib.hid (ge_any a b ha.s hb.s)
  have CH := Lib.hid (fun i hi => holds_any i hi a b ha.s hb.s)
  have HX : Hid (∀ i : Nat, i < 6 → [holdV (fun n => n == 0) a b, holdV (fun n => n != 0) a b, holdV (fun n => decide (n < 0)) a b, holdV (fun n => decide (n ≤ 0)) a b, holdV (fun n => decide (n > 0)) a b, holdV (fun n => decide (n ≥ 0)) a b][i]? = some (holdV (ask i) a b)) := by
    show (∀ i : Nat, i < 6 → [holdV (fun n => n == 0) a b, holdV (fun n => n != 0) a b, holdV (fun n => decide (n < 0)) a b, holdV (fun n => decide (n ≤ 0)) a b, holdV (fun n => decide (n > 0)) a b, holdV (fun n => decide (n ≥ 0)) a b][i]? = some (holdV (ask i) a b))
    intro i hi
    have : i = 0 ∨ i = 1 ∨ i = 2 ∨ i = 3 ∨ i = 4 ∨ i = 5 := by omega
    rcases this with rfl | rfl | rfl | rfl | rfl | rfl <;> rfl
  have HT := Lib.hid (fun (w' : World) (h : Below (w.heap.size + 2) (M2 w a b) w') => two_boxes h (Nat.le_refl _))
  have HA := Lib.hid (fun (W : World) (h : Sm W) => awake_any W h)
  have HW := Lib.hid hw
  generalize hx1 : holdV (fun n => n == 0) a b = x1 at C1 HX
  generalize hx2 : holdV (fun n => n != 0) a b = x2 at C2 HX
  generalize hx3 : holdV (fun n => decide (n < 0)) a b = x3 at C3 HX
  generalize hx4 : holdV (fun n => decide (n ≤ 0)) a b = x4 at C4 HX
  generalize hx5 : holdV (fun n => decide (n > 0)) a b = x5 at C5 HX
  generalize hx6 : holdV (fun n => decide (n ≥ 0)) a b = x6 at C6 HX
  clear hx1 hx2 hx3 hx4 hx5 hx6
  have HXL : Hid (∀ i : Nat, i < 6 → ∀ y : V, [x1, x2, x3, x4, x5, x6][i]? = some y → ∀ W, Calls Tryd.prog 23 #[.int .i64 (i : Int), .agg #[.int .i64 a.k, .int .i64 a.n, .string a.s], .agg #[.int .i64 b.k, .int .i64 b.n, .string b.s]] W fun e w' =>
      e = .returned (.tuple #[.agg #[.int .i64 y.k, .int .i64 y.n, .string y.s], .int .i64 (holdE a b)]) ∧ Below W.heap.size W w') := by
    show (∀ i : Nat, i < 6 → ∀ y : V, [x1, x2, x3, x4, x5, x6][i]? = some y → ∀ W, Calls Tryd.prog 23 #[.int .i64 (i : Int), .agg #[.int .i64 a.k, .int .i64 a.n, .string a.s], .agg #[.int .i64 b.k, .int .i64 b.n, .string b.s]] W fun e w' =>
      e = .returned (.tuple #[.agg #[.int .i64 y.k, .int .i64 y.n, .string y.s], .int .i64 (holdE a b)]) ∧ Below W.heap.size W w')
    intro i hi y hy W
    rw [HX.out i hi] at hy
    cases hy
    exact CH.out i hi W
  clear CH HX
  generalize holdE a b = ee at C1 C2 C3 C4 C5 C6 HXL
  clear ha hb hw
  unfold V.agg
  have HMZ : Hid ((M2 w a b).heap.size = w.heap.size + 2) := by show (M2 w a b).heap.size = w.heap.size + 2; simp [M2]
  have HM0 := Lib.hid (Below.refl (M2 w a b).heap.size (M2 w a b))
  generalize hM2 : M2 w a b = MM at HT HM0 HMZ
  have hM3 := hM2
  unfold M2 at hM3
  rw [← HMZ.out] at HT
  obtain ⟨k, n, s⟩ := a
  obtain ⟨k', n', s'⟩ := b
  obtain ⟨k1, n1, s1⟩ := x1
  obtain ⟨k2, n2, s2⟩ := x2
  obtain ⟨k3, n3, s3⟩ := x3
  obtain ⟨k4, n4, s4⟩ := x4
  obtain ⟨k5, n5, s5⟩ := x5
  obtain ⟨k6, n6, s6⟩ := x6
  simp only at C1 C2 C3 C4 C5 C6 HT HXL hM3 ⊢
  have HMM := Lib.hid hM3
  clear hM2 hM3
  go_enter Tryd.func4, Tryd.ntmps4
  go_wp2_with fail
  refine (C1.out _).mono ?_
  rintro e w1 ⟨rfl, hb1⟩
  rw [HMM.out] at hb1
  have HM1 := Lib.hid hb1
  clear hb1
  obtain ⟨⟨c0, c1, c2⟩, ⟨d0, d1, d2⟩, hbel, hzz⟩ := HT.out (w1.alloc (.cells #[.int .i64 k1, .int .i64 n1, .string s1] 23)) (HM1.out.alloc HM1.out.size (.cells #[.int .i64 k1, .int .i64 n1, .string s1] 23))
  obtain ⟨r1_0, r1_1, r1_2⟩ := Box.new w1 k1 n1 s1
  go_wp2_with fail
  refine (C2.out _).mono ?_
  rintro e w2 ⟨rfl, hb2⟩
  have HM2 := Lib.hid (below_step HM1.out hb2)
  have R1 := Lib.hid ((Box.new w1 k1 n1 s1).up hb2)
  clear hb2 hbel c0 c1 c2 d0 d1 d2 hzz r1_0 r1_1 r1_2
  obtain ⟨⟨c0, c1, c2⟩, ⟨d0, d1, d2⟩, hbel, hzz⟩ := HT.out (w2.alloc (.cells #[.int .i64 k2, .int .i64 n2, .string s2] 23)) (HM2.out.alloc HM2.out.size (.cells #[.int .i64 k2, .int .i64 n2, .string s2] 23))
  obtain ⟨r1_0, r1_1, r1_2⟩ := R1.out.alloc (.cells #[.int .i64 k2, .int .i64 n2, .string s2] 23)
  obtain ⟨r2_0, r2_1, r2_2⟩ := Box.new w2 k2 n2 s2
  go_wp2_with fail
  refine (C3.out _).mono ?_
  rintro e w3 ⟨rfl, hb3⟩
  have HM3 := Lib.hid (below_step HM2.out hb3)
  replace R1 := Lib.hid ((R1.out.alloc _).up hb3)
  have R2 := Lib.hid ((Box.new w2 k2 n2 s2).up hb3)
  clear hb3 hbel c0 c1 c2 d0 d1 d2 hzz r1_0 r1_1 r1_2 r2_0 r2_1 r2_2
  obtain ⟨⟨c0, c1, c2⟩, ⟨d0, d1, d2⟩, hbel, hzz⟩ := HT.out (w3.alloc (.cells #[.int .i64 k3, .int .i64 n3, .string s3] 23)) (HM3.out.alloc HM3.out.size (.cells #[.int .i64 k3, .int .i64 n3, .string s3] 23))
  obtain ⟨r1_0, r1_1, r1_2⟩ := R1.out.alloc (.cells #[.int .i64 k3, .int .i64 n3, .string s3] 23)
  obtain ⟨r2_0, r2_1, r2_2⟩ := R2.out.alloc (.cells #[.int .i64 k3, .int .i64 n3, .string s3] 23)
  obtain ⟨r3_0, r3_1, r3_2⟩ := Box.new w3 k3 n3 s3
  go_wp2_with fail
  refine (C4.out _).mono ?_
  rintro e w4 ⟨rfl, hb4⟩
  have HM4 := Lib.hid (below_step HM3.out hb4)
  replace R1 := Lib.hid ((R1.out.alloc _).up hb4)
  replace R2 := Lib.hid ((R2.out.alloc _).up hb4)
  have R3 := Lib.hid ((Box.new w3 k3 n3 s3).up hb4)
  clear hb4 hbel c0 c1 c2 d0 d1 d2 hzz r1_0 r1_1 r1_2 r2_0 r2_1 r2_2 r3_0 r3_1 r3_2
  obtain ⟨⟨c0, c1, c2⟩, ⟨d0, d1, d2⟩, hbel, hzz⟩ := HT.out (w4.alloc (.cells #[.int .i64 k4, .int .i64 n4, .string s4] 23)) (HM4.out.alloc HM4.out.size (.cells #[.int .i64 k4, .int .i64 n4, .string s4] 23))
  obtain ⟨r1_0, r1_1, r1_2⟩ := R1.out.alloc (.cells #[.int .i64 k4, .int .i64 n4, .string s4] 23)
  obtain ⟨r2_0, r2_1, r2_2⟩ := R2.out.alloc (.cells #[.int .i64 k4, .int .i64 n4, .string s4] 23)
  obtain ⟨r3_0, r3_1, r3_2⟩ := R3.out.alloc (.cells #[.int .i64 k4, .int .i64 n4, .string s4] 23)
  obtain ⟨r4_0, r4_1, r4_2⟩ := Box.new w4 k4 n4 s4
  go_wp2_with fail
  refine (C5.out _).mono ?_
  rintro e w5 ⟨rfl, hb5⟩
  have HM5 := Lib.hid (below_step HM4.out hb5)
  replace R1 := Lib.hid ((R1.out.alloc _).up hb5)
  replace R2 := Lib.hid ((R2.out.alloc _).up hb5)
  replace R3 := Lib.hid ((R3.out.alloc _).up hb5)
  have R4 := Lib.hid ((Box.new w4 k4 n4 s4).up hb5)
  clear hb5 hbel c0 c1 c2 d0 d1 d2 hzz r1_0 r1_1 r1_2 r2_0 r2_1 r2_2 r3_0 r3_1 r3_2 r4_0 r4_1 r4_2
  obtain ⟨⟨c0, c1, c2⟩, ⟨d0, d1, d2⟩, hbel, hzz⟩ := HT.out (w5.alloc (.cells #[.int .i64 k5, .int .i64 n5, .string s5] 23)) (HM5.out.alloc HM5.out.size (.cells #[.int .i64 k5, .int .i64 n5, .string s5] 23))
  obtain ⟨r1_0, r1_1, r1_2⟩ := R1.out.alloc (.cells #[.int .i64 k5, .int .i64 n5, .string s5] 23)
  obtain ⟨r2_0, r2_1, r2_2⟩ := R2.out.alloc (.cells #[.int .i64 k5, .int .i64 n5, .string s5] 23)
  obtain ⟨r3_0, r3_1, r3_2⟩ := R3.out.alloc (.cells #[.int .i64 k5, .int .i64 n5, .string s5] 23)
  obtain ⟨r4_0, r4_1, r4_2⟩ := R4.out.alloc (.cells #[.int .i64 k5, .int .i64 n5, .string s5] 23)
  obtain ⟨r5_0, r5_1, r5_2⟩ := Box.new w5 k5 n5 s5
  go_wp2_with fail
  refine (C6.out _).mono ?_
  rintro e w6 ⟨rfl, hb6⟩
  have HM6 := Lib.hid (below_step HM5.out hb6)
  replace R1 := Lib.hid ((R1.out.alloc _).up hb6)
  replace R2 := Lib.hid ((R2.out.alloc _).up hb6)
  replace R3 := Lib.hid ((R3.out.alloc _).up hb6)
  replace R4 := Lib.hid ((R4.out.alloc _).up hb6)
  have R5 := Lib.hid ((Box.new w5 k5 n5 s5).up hb6)
  clear hb6 hbel c0 c1 c2 d0 d1 d2 hzz r1_0 r1_1 r1_2 r2_0 r2_1 r2_2 r3_0 r3_1 r3_2 r4_0 r4_1 r4_2 r5_0 r5_1 r5_2
  obtain ⟨⟨c0, c1, c2⟩, ⟨d0, d1, d2⟩, hbel, hzz⟩ := HT.out (w6.alloc (.cells #[.int .i64 k6, .int .i64 n6, .string s6] 23)) (HM6.out.alloc HM6.out.size (.cells #[.int .i64 k6, .int .i64 n6, .string s6] 23))
  obtain ⟨r1_0, r1_1, r1_2⟩ := R1.out.alloc (.cells #[.int .i64 k6, .int .i64 n6, .string s6] 23)
  obtain ⟨r2_0, r2_1, r2_2⟩ := R2.out.alloc (.cells #[.int .i64 k6, .int .i64 n6, .string s6] 23)
  obtain ⟨r3_0, r3_1, r3_2⟩ := R3.out.alloc (.cells #[.int .i64 k6, .int .i64 n6, .string s6] 23)
  obtain ⟨r4_0, r4_1, r4_2⟩ := R4.out.alloc (.cells #[.int .i64 k6, .int .i64 n6, .string s6] 23)
  obtain ⟨r5_0, r5_1, r5_2⟩ := R5.out.alloc (.cells #[.int .i64 k6, .int .i64 n6, .string s6] 23)
  obtain ⟨r6_0, r6_1, r6_2⟩ := Box.new w6 k6 n6 s6
  have HG0 := six (w6.alloc (.cells #[.int .i64 k6, .int .i64 n6, .string s6] 23)) ⟨k1, n1, s1⟩ ⟨k2, n2, s2⟩ ⟨k3, n3, s3⟩ ⟨k4, n4, s4⟩ ⟨k5, n5, s5⟩ ⟨k6, n6, s6⟩
  have HGL := Lib.hid (HG0.below ((Below.refl _ _).alloc (Nat.le_refl _) (.cells #[.int .i64 ee, .int .i64 ee, .int .i64 ee, .int .i64 ee, .int .i64 ee, .int .i64 ee] 24)) (by simp))
  have HTL := Lib.hid (six_told ((w6.alloc (.cells #[.int .i64 k6, .int .i64 n6, .string s6] 23)).alloc (.cells #[.int .i64 k1, .int .i64 n1, .string s1, .int .i64 k2, .int .i64 n2, .string s2, .int .i64 k3, .int .i64 n3, .string s3, .int .i64 k4, .int .i64 n4, .string s4, .int .i64 k5, .int .i64 n5, .string s5, .int .i64 k6, .int .i64 n6, .string s6] 23)) ee)
  have HML := Lib.hid (((HM6.out.alloc HM6.out.size (.cells #[.int .i64 k6, .int .i64 n6, .string s6] 23)).alloc (by have := HM6.out.size; simp; omega) (.cells #[.int .i64 k1, .int .i64 n1, .string s1, .int .i64 k2, .int .i64 n2, .string s2, .int .i64 k3, .int .i64 n3, .string s3, .int .i64 k4, .int .i64 n4, .string s4, .int .i64 k5, .int .i64 n5, .string s5, .int .i64 k6, .int .i64 n6, .string s6] 23)).alloc (by have := HM6.out.size; simp; omega) (.cells #[.int .i64 ee, .int .i64 ee, .int .i64 ee, .int .i64 ee, .int .i64 ee, .int .i64 ee] 24))
  have hsz : (((w6.alloc (.cells #[.int .i64 k6, .int .i64 n6, .string s6] 23)).alloc (.cells #[.int .i64 k1, .int .i64 n1, .string s1, .int .i64 k2, .int .i64 n2, .string s2, .int .i64 k3, .int .i64 n3, .string s3, .int .i64 k4, .int .i64 n4, .string s4, .int .i64 k5, .int .i64 n5, .string s5, .int .i64 k6, .int .i64 n6, .string s6] 23)).alloc (.cells #[.int .i64 ee, .int .i64 ee, .int .i64 ee, .int .i64 ee, .int .i64 ee, .int .i64 ee] 24)).heap.size = w6.heap.size + 1 + 1 + 1 := by simp
  have HSZ := Lib.hid hsz
  clear HG0 hsz R1 R2 R3 R4 R5 C1 C2 C3 C4 C5 C6
  simp only [World.size_alloc] at HGL HTL
  go_wp2_with fail
  generalize (((w6.alloc (.cells #[.int .i64 k6, .int .i64 n6, .string s6] 23)).alloc (.cells #[.int .i64 k1, .int .i64 n1, .string s1, .int .i64 k2, .int .i64 n2, .string s2, .int .i64 k3, .int .i64 n3, .string s3, .int .i64 k4, .int .i64 n4, .string s4, .int .i64 k5, .int .i64 n5, .string s5, .int .i64 k6, .int .i64 n6, .string s6] 23)).alloc (.cells #[.int .i64 ee, .int .i64 ee, .int .i64 ee, .int .i64 ee, .int .i64 ee, .int .i64 ee] 24)) = WL at HGL HTL HML HSZ ⊢
  clear c0 c1 c2 d0 d1 d2 hbel hzz r1_0 r1_1 r1_2 r2_0 r2_1 r2_2 r3_0 r3_1 r3_2 r4_0 r4_1 r4_2 r5_0 r5_1 r5_2 r6_0 r6_1 r6_2
  generalize w6.heap.size + 1 = g at HGL HTL HSZ ⊢
  go_loopw [19] (fun i wr => ∃ q : Nat, q ≤ 6 ∧ i = .int .i64 (q : Int) ∧ Below WL.heap.size WL wr) (fun i _ => 6 - (intOf i).toNat)
  case atStart => exact ⟨0, by omega, rfl, Below.refl _ _⟩
  case round =>
    obtain ⟨q, hq, rfl, hbel⟩ := hrel
    have HBEL := Lib.hid hbel
    have HMR := Lib.hid (HML.out.trans (hbel.mono HML.out.size))
    clear hbel
    obtain ⟨⟨c0, c1, c2⟩, ⟨d0, d1, d2⟩, hbw, hzz⟩ := HT.out wr HMR.out
    by_cases hlt : q < 6
    · obtain ⟨y, hy⟩ : ∃ y, [(⟨k1, n1, s1⟩ : V), ⟨k2, n2, s2⟩, ⟨k3, n3, s3⟩, ⟨k4, n4, s4⟩, ⟨k5, n5, s5⟩, ⟨k6, n6, s6⟩][q]? = some y := ⟨_, List.getElem?_eq_getElem (by simpa using hlt)⟩
      have CC := Lib.hid (HXL.out q hlt y hy)
      have BY := Lib.hid ((HGL.out q y hy).below HBEL.out (by rw [HSZ.out]; omega))
      have TY := Lib.hid ((HBEL.out.cell (p := ⟨g + 1, q, none⟩) (by rw [HSZ.out]; show g + 1 < _; omega)).trans (HTL.out q hlt))
      clear hy
      obtain ⟨yk, yn, ys⟩ := y
      simp only at CC BY
      have qy := veq_refl yk yn ys
      have hq1 : (q : Int) < 6 := by omega
      go_wp2_with fail
      refine (CC.out _).mono ?_
      rintro e w7 ⟨rfl, hb7⟩
      have HB7 := Lib.hid ((below_trans HBEL.out hb7).alloc (below_trans HBEL.out hb7).size (.cells #[.int .i64 yk, .int .i64 yn, .string ys] 23))
      obtain ⟨g0, g1, g2⟩ := (((BY.out.up hb7).alloc (.cells #[.int .i64 yk, .int .i64 yn, .string ys] 23))).grown
      obtain ⟨f0, f1, f2⟩ := (Box.new w7 yk yn ys).grown
      have t0 := cell_regrown ((((Below.refl _ _).alloc hb7.size (.cells #[.int .i64 yk, .int .i64 yn, .string ys] 23) : Below _ w7 _).cell (p := ⟨g + 1, q, none⟩) (block_lt_of_cell TY.out)).trans ((hb7.cell (p := ⟨g + 1, q, none⟩) (block_lt_of_cell TY.out)).trans TY.out))
      clear hb7
      go_wp2_with fail
      refine wp_region_quiet_below (by kernel_rfl) (by kernel_rfl) ?_
      repeat (go_big_quiet_step (fail))
      refine wpQuiet_nil ?_
      intro _ hw'
      obtain ⟨p, rfl⟩ := hw'
      go_wp2
      go_roundw
      case rel => exact ⟨q + 1, by omega, by go_num, below_trans HB7.out (below_regrown _ _ _)⟩
      case measure => simp [intOf]; omega
    · obtain rfl : q = 6 := by omega
      go_wp2_with fail
      refine (HA.out _ (HW.out.below hbw)).mono ?_
      rintro e w7 ⟨rfl, hb7⟩
      have HB := Lib.hid (below_trans hbw hb7)
      clear hb7 hbw
      go_wp2
      go_ret
      exact ⟨rfl, HB.out⟩
end Go.Proofs.YtjfpkjpicalfmaaDoor.valueHolds
