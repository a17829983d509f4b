/-
  THE WALK OF ValueReckons.
-/
import Derived.Test.YtjfpkjpicalfmaaDoorKit
import Derived.Test.YtjfpkjpicalfmaaDoorReck
import Derived.Test.YtjfpkjpicalfmaaDoorJoin
namespace Go.Proofs.YtjfpkjpicalfmaaDoor.valueReckons
open Go.RowKit Go.Sort
attribute [local go_sem high] run_eq23 run_neq23 run_eq9

theorem five (w : World) (x1 x2 x3 x4 x5 : V) : Vs (w.alloc (.cells #[.int .i64 x1.k, .int .i64 x1.n, .string x1.s, .int .i64 x2.k, .int .i64 x2.n, .string x2.s, .int .i64 x3.k, .int .i64 x3.n, .string x3.s, .int .i64 x4.k, .int .i64 x4.n, .string x4.s, .int .i64 x5.k, .int .i64 x5.n, .string x5.s] 23)) w.heap.size [x1, x2, x3, x4, x5] := by
  intro i v hv
  have hi : i = 0 ∨ i = 1 ∨ i = 2 ∨ i = 3 ∨ i = 4 := by
    have : i < 5 := by
      rcases Nat.lt_or_ge i 5 with h | h
      · exact h
      · rw [List.getElem?_eq_none (by simpa using h)] at hv; cases hv
    omega
  rcases hi with rfl | rfl | rfl | rfl | rfl
  all_goals
    simp at hv; subst hv
    refine ⟨?_, ?_, ?_⟩ <;> go_simp
theorem five_told (w : World) (e1 e2 e3 e4 e5 : Int) : ∀ j e, [e1, e2, e3, e4, e5][j]? = some e → (w.alloc (.cells #[.int .i64 e1, .int .i64 e2, .int .i64 e3, .int .i64 e4, .int .i64 e5] 24)).cell? ⟨w.heap.size, j, none⟩ = some (.int .i64 e) := by
  intro j e he
  have hi : j = 0 ∨ j = 1 ∨ j = 2 ∨ j = 3 ∨ j = 4 := by
    have : j < 5 := by
      rcases Nat.lt_or_ge j 5 with h | h
      · exact h
      · rw [List.getElem?_eq_none (by simpa using h)] at he; cases he
    omega
  rcases hi with rfl | rfl | rfl | rfl | rfl
  all_goals
    simp at he; subst he
    go_simp

set_option maxRecDepth 100000 in
set_option maxHeartbeats 16000000 in
theorem walked (a b : V) (w : World) (ha : VOk a) (hb : VOk b) (hw : Sm w) :
    Calls Tryd.prog 6 #[a.agg, b.agg] w fun e w' => e = .returned (.bool true) ∧ Below w.heap.size w w' := by
  have C1 := Lib.hid (vadd_any a b ha.n hb.n ha.s hb.s)
  have C2 := Lib.hid (vsub_any a b ha.n hb.n ha.s hb.s)
  have C3 := Lib.hid (vmul_any a b ha.n hb.n ha.s hb.s)
  have C4 := Lib.hid (vdiv_any a b ha.n ha.s hb.s)
  have C5 := Lib.hid (vmod_any a b ha.n ha.s hb.s)
  have N1 := Lib.hid (neg_any a ha.n ha.s)
  have N2 := Lib.hid (rneg_any a ha.n ha.s)
  have J1 := Lib.hid (join_any a b ha.s hb.s)
  have J2 := Lib.hid (rjoin_any a b ha.s hb.s)
  have HXL : Hid (∀ i : Nat, i < 5 → ∀ (y : V) (e : Int), [reckV 0 a b, reckV 1 a b, reckV 2 a b, reckV 3 a b, reckV 4 a b][i]? = some y → [reckE 0 a b, reckE 1 a b, reckE 2 a b, reckE 3 a b, reckE 4 a b][i]? = some e → ∀ W, Calls Tryd.prog 35 #[.int .i64 (i : Int), .agg #[.int .i64 a.k, .int .i64 a.n, .string a.s], .agg #[.int .i64 b.k, .int .i64 b.n, .string b.s]] W fun e' w' =>
      e' = .returned (.tuple #[.agg #[.int .i64 y.k, .int .i64 y.n, .string y.s], .int .i64 e]) ∧ Below W.heap.size W w') := by
    show (∀ i : Nat, i < 5 → ∀ (y : V) (e : Int), [reckV 0 a b, reckV 1 a b, reckV 2 a b, reckV 3 a b, reckV 4 a b][i]? = some y → [reckE 0 a b, reckE 1 a b, reckE 2 a b, reckE 3 a b, reckE 4 a b][i]? = some e → ∀ W, Calls Tryd.prog 35 #[.int .i64 (i : Int), .agg #[.int .i64 a.k, .int .i64 a.n, .string a.s], .agg #[.int .i64 b.k, .int .i64 b.n, .string b.s]] W fun e' w' =>
      e' = .returned (.tuple #[.agg #[.int .i64 y.k, .int .i64 y.n, .string y.s], .int .i64 e]) ∧ Below W.heap.size W w')
    intro i hi y e hy he W
    have h1 : [reckV 0 a b, reckV 1 a b, reckV 2 a b, reckV 3 a b, reckV 4 a b][i]? = some (reckV i a b) := by
      have : i = 0 ∨ i = 1 ∨ i = 2 ∨ i = 3 ∨ i = 4 := by omega
      rcases this with rfl | rfl | rfl | rfl | rfl <;> rfl
    have h2 : [reckE 0 a b, reckE 1 a b, reckE 2 a b, reckE 3 a b, reckE 4 a b][i]? = some (reckE i a b) := by
      have : i = 0 ∨ i = 1 ∨ i = 2 ∨ i = 3 ∨ i = 4 := by omega
      rcases this with rfl | rfl | rfl | rfl | rfl <;> rfl
    rw [h1] at hy
    rw [h2] at he
    cases hy
    cases he
    exact reckon_any i hi a b ha.n hb.n ha.s hb.s W
  have HT := Lib.hid (fun (w' : World) (h : Below (w.heap.size + 2) (M2 w a b) w') => two_boxes h (Nat.le_refl _))
  have HA := Lib.hid (fun (W : World) (h : Sm W) => awake_any W h)
  have HW := Lib.hid hw
  generalize reckV 1 ⟨1, 0, ⟨#[]⟩⟩ a = x6 at N1 N2
  generalize reckE 1 ⟨1, 0, ⟨#[]⟩⟩ a = e6 at N1 N2
  generalize joinV a b = x7 at J1 J2
  generalize joinE a b = e7 at J1 J2
  generalize reckV 0 a b = x1 at C1 HXL
  generalize reckE 0 a b = e1 at C1 HXL
  generalize reckV 1 a b = x2 at C2 HXL
  generalize reckE 1 a b = e2 at C2 HXL
  generalize reckV 2 a b = x3 at C3 HXL
  generalize reckE 2 a b = e3 at C3 HXL
  generalize reckV 3 a b = x4 at C4 HXL
  generalize reckE 3 a b = e4 at C4 HXL
  generalize reckV 4 a b = x5 at C5 HXL
  generalize reckE 4 a b = e5 at C5 HXL
  clear ha hb hw
  unfold V.agg
  have HMZ : Hid ((M2 w a b).heap.size = w.heap.size + 2) := by show (M2 w a b).heap.size = w.heap.size + 2; simp [M2]
  have HM0 := Lib.hid (Below.refl (M2 w a b).heap.size (M2 w a b))
  generalize hM2 : M2 w a b = MM at HT HM0 HMZ
  have hM3 := hM2
  unfold M2 at hM3
  rw [← HMZ.out] at HT
  obtain ⟨k, n, s⟩ := a
  obtain ⟨k', n', s'⟩ := b
  obtain ⟨k1, n1, s1⟩ := x1
  obtain ⟨k2, n2, s2⟩ := x2
  obtain ⟨k3, n3, s3⟩ := x3
  obtain ⟨k4, n4, s4⟩ := x4
  obtain ⟨k5, n5, s5⟩ := x5
  obtain ⟨k6, n6, s6⟩ := x6
  obtain ⟨k7, n7, s7⟩ := x7
  simp only at C1 C2 C3 C4 C5 N1 N2 J1 J2 HT HXL hM3 ⊢
  have HMM := Lib.hid hM3
  clear hM2 hM3
  go_enter Tryd.func6, Tryd.ntmps6
  go_wp2_with fail
  refine (C1.out _).mono ?_
  rintro e w1 ⟨rfl, hb1⟩
  rw [HMM.out] at hb1
  have HM1 := Lib.hid hb1
  clear hb1
  obtain ⟨⟨c0, c1, c2⟩, ⟨d0, d1, d2⟩, hbel, hzz⟩ := HT.out (w1.alloc (.cells #[.int .i64 k1, .int .i64 n1, .string s1] 23)) (HM1.out.alloc HM1.out.size (.cells #[.int .i64 k1, .int .i64 n1, .string s1] 23))
  obtain ⟨r1_0, r1_1, r1_2⟩ := Box.new w1 k1 n1 s1
  go_wp2_with fail
  refine (C2.out _).mono ?_
  rintro e w2 ⟨rfl, hb2⟩
  have HM2 := Lib.hid (below_step HM1.out hb2)
  have R1 := Lib.hid ((Box.new w1 k1 n1 s1).up hb2)
  clear hb2 hbel c0 c1 c2 d0 d1 d2 hzz r1_0 r1_1 r1_2
  obtain ⟨⟨c0, c1, c2⟩, ⟨d0, d1, d2⟩, hbel, hzz⟩ := HT.out (w2.alloc (.cells #[.int .i64 k2, .int .i64 n2, .string s2] 23)) (HM2.out.alloc HM2.out.size (.cells #[.int .i64 k2, .int .i64 n2, .string s2] 23))
  obtain ⟨r1_0, r1_1, r1_2⟩ := R1.out.alloc (.cells #[.int .i64 k2, .int .i64 n2, .string s2] 23)
  obtain ⟨r2_0, r2_1, r2_2⟩ := Box.new w2 k2 n2 s2
  go_wp2_with fail
  refine (C3.out _).mono ?_
  rintro e w3 ⟨rfl, hb3⟩
  have HM3 := Lib.hid (below_step HM2.out hb3)
  replace R1 := Lib.hid ((R1.out.alloc _).up hb3)
  have R2 := Lib.hid ((Box.new w2 k2 n2 s2).up hb3)
  clear hb3 hbel c0 c1 c2 d0 d1 d2 hzz r1_0 r1_1 r1_2 r2_0 r2_1 r2_2
  obtain ⟨⟨c0, c1, c2⟩, ⟨d0, d1, d2⟩, hbel, hzz⟩ := HT.out (w3.alloc (.cells #[.int .i64 k3, .int .i64 n3, .string s3] 23)) (HM3.out.alloc HM3.out.size (.cells #[.int .i64 k3, .int .i64 n3, .string s3] 23))
  obtain ⟨r1_0, r1_1, r1_2⟩ := R1.out.alloc (.cells #[.int .i64 k3, .int .i64 n3, .string s3] 23)
  obtain ⟨r2_0, r2_1, r2_2⟩ := R2.out.alloc (.cells #[.int .i64 k3, .int .i64 n3, .string s3] 23)
  obtain ⟨r3_0, r3_1, r3_2⟩ := Box.new w3 k3 n3 s3
  go_wp2_with fail
  refine (C4.out _).mono ?_
  rintro e w4 ⟨rfl, hb4⟩
  have HM4 := Lib.hid (below_step HM3.out hb4)
  replace R1 := Lib.hid ((R1.out.alloc _).up hb4)
  replace R2 := Lib.hid ((R2.out.alloc _).up hb4)
  have R3 := Lib.hid ((Box.new w3 k3 n3 s3).up hb4)
  clear hb4 hbel c0 c1 c2 d0 d1 d2 hzz r1_0 r1_1 r1_2 r2_0 r2_1 r2_2 r3_0 r3_1 r3_2
  obtain ⟨⟨c0, c1, c2⟩, ⟨d0, d1, d2⟩, hbel, hzz⟩ := HT.out (w4.alloc (.cells #[.int .i64 k4, .int .i64 n4, .string s4] 23)) (HM4.out.alloc HM4.out.size (.cells #[.int .i64 k4, .int .i64 n4, .string s4] 23))
  obtain ⟨r1_0, r1_1, r1_2⟩ := R1.out.alloc (.cells #[.int .i64 k4, .int .i64 n4, .string s4] 23)
  obtain ⟨r2_0, r2_1, r2_2⟩ := R2.out.alloc (.cells #[.int .i64 k4, .int .i64 n4, .string s4] 23)
  obtain ⟨r3_0, r3_1, r3_2⟩ := R3.out.alloc (.cells #[.int .i64 k4, .int .i64 n4, .string s4] 23)
  obtain ⟨r4_0, r4_1, r4_2⟩ := Box.new w4 k4 n4 s4
  go_wp2_with fail
  refine (C5.out _).mono ?_
  rintro e w5 ⟨rfl, hb5⟩
  have HM5 := Lib.hid (below_step HM4.out hb5)
  replace R1 := Lib.hid ((R1.out.alloc _).up hb5)
  replace R2 := Lib.hid ((R2.out.alloc _).up hb5)
  replace R3 := Lib.hid ((R3.out.alloc _).up hb5)
  have R4 := Lib.hid ((Box.new w4 k4 n4 s4).up hb5)
  clear hb5 hbel c0 c1 c2 d0 d1 d2 hzz r1_0 r1_1 r1_2 r2_0 r2_1 r2_2 r3_0 r3_1 r3_2 r4_0 r4_1 r4_2
  obtain ⟨⟨c0, c1, c2⟩, ⟨d0, d1, d2⟩, hbel, hzz⟩ := HT.out (w5.alloc (.cells #[.int .i64 k5, .int .i64 n5, .string s5] 23)) (HM5.out.alloc HM5.out.size (.cells #[.int .i64 k5, .int .i64 n5, .string s5] 23))
  obtain ⟨r1_0, r1_1, r1_2⟩ := R1.out.alloc (.cells #[.int .i64 k5, .int .i64 n5, .string s5] 23)
  obtain ⟨r2_0, r2_1, r2_2⟩ := R2.out.alloc (.cells #[.int .i64 k5, .int .i64 n5, .string s5] 23)
  obtain ⟨r3_0, r3_1, r3_2⟩ := R3.out.alloc (.cells #[.int .i64 k5, .int .i64 n5, .string s5] 23)
  obtain ⟨r4_0, r4_1, r4_2⟩ := R4.out.alloc (.cells #[.int .i64 k5, .int .i64 n5, .string s5] 23)
  obtain ⟨r5_0, r5_1, r5_2⟩ := Box.new w5 k5 n5 s5
  have HG0 := five (w5.alloc (.cells #[.int .i64 k5, .int .i64 n5, .string s5] 23)) ⟨k1, n1, s1⟩ ⟨k2, n2, s2⟩ ⟨k3, n3, s3⟩ ⟨k4, n4, s4⟩ ⟨k5, n5, s5⟩
  have HGL := Lib.hid (HG0.below ((Below.refl _ _).alloc (Nat.le_refl _) (.cells #[.int .i64 e1, .int .i64 e2, .int .i64 e3, .int .i64 e4, .int .i64 e5] 24)) (by simp))
  have HTL := Lib.hid (five_told ((w5.alloc (.cells #[.int .i64 k5, .int .i64 n5, .string s5] 23)).alloc (.cells #[.int .i64 k1, .int .i64 n1, .string s1, .int .i64 k2, .int .i64 n2, .string s2, .int .i64 k3, .int .i64 n3, .string s3, .int .i64 k4, .int .i64 n4, .string s4, .int .i64 k5, .int .i64 n5, .string s5] 23)) e1 e2 e3 e4 e5)
  have HML := Lib.hid (((HM5.out.alloc HM5.out.size (.cells #[.int .i64 k5, .int .i64 n5, .string s5] 23)).alloc (by have := HM5.out.size; simp; omega) (.cells #[.int .i64 k1, .int .i64 n1, .string s1, .int .i64 k2, .int .i64 n2, .string s2, .int .i64 k3, .int .i64 n3, .string s3, .int .i64 k4, .int .i64 n4, .string s4, .int .i64 k5, .int .i64 n5, .string s5] 23)).alloc (by have := HM5.out.size; simp; omega) (.cells #[.int .i64 e1, .int .i64 e2, .int .i64 e3, .int .i64 e4, .int .i64 e5] 24))
  have hsz : (((w5.alloc (.cells #[.int .i64 k5, .int .i64 n5, .string s5] 23)).alloc (.cells #[.int .i64 k1, .int .i64 n1, .string s1, .int .i64 k2, .int .i64 n2, .string s2, .int .i64 k3, .int .i64 n3, .string s3, .int .i64 k4, .int .i64 n4, .string s4, .int .i64 k5, .int .i64 n5, .string s5] 23)).alloc (.cells #[.int .i64 e1, .int .i64 e2, .int .i64 e3, .int .i64 e4, .int .i64 e5] 24)).heap.size = w5.heap.size + 1 + 1 + 1 := by simp
  have HSZ := Lib.hid hsz
  clear HG0 hsz R1 R2 R3 R4 C1 C2 C3 C4 C5
  simp only [World.size_alloc] at HGL HTL
  go_wp2_with fail
  generalize (((w5.alloc (.cells #[.int .i64 k5, .int .i64 n5, .string s5] 23)).alloc (.cells #[.int .i64 k1, .int .i64 n1, .string s1, .int .i64 k2, .int .i64 n2, .string s2, .int .i64 k3, .int .i64 n3, .string s3, .int .i64 k4, .int .i64 n4, .string s4, .int .i64 k5, .int .i64 n5, .string s5] 23)).alloc (.cells #[.int .i64 e1, .int .i64 e2, .int .i64 e3, .int .i64 e4, .int .i64 e5] 24)) = WL at HGL HTL HML HSZ ⊢
  clear c0 c1 c2 d0 d1 d2 hbel hzz r1_0 r1_1 r1_2 r2_0 r2_1 r2_2 r3_0 r3_1 r3_2 r4_0 r4_1 r4_2 r5_0 r5_1 r5_2
  generalize w5.heap.size + 1 = g at HGL HTL HSZ ⊢
  go_loopw [17] (fun i wr => ∃ q : Nat, q ≤ 5 ∧ i = .int .i64 (q : Int) ∧ Below WL.heap.size WL wr) (fun i _ => 5 - (intOf i).toNat)
  case atStart => exact ⟨0, by omega, rfl, Below.refl _ _⟩
  case round =>
    obtain ⟨q, hq, rfl, hbel⟩ := hrel
    have HBEL := Lib.hid hbel
    have HM10 := Lib.hid (HML.out.trans (hbel.mono HML.out.size))
    clear hbel
    obtain ⟨⟨c0, c1, c2⟩, ⟨d0, d1, d2⟩, hbel, hzz⟩ := HT.out wr HM10.out
    by_cases hlt : q < 5
    · clear N1 N2 J1 J2
      obtain ⟨y, hy⟩ : ∃ y, [(⟨k1, n1, s1⟩ : V), ⟨k2, n2, s2⟩, ⟨k3, n3, s3⟩, ⟨k4, n4, s4⟩, ⟨k5, n5, s5⟩][q]? = some y := ⟨_, List.getElem?_eq_getElem (by simpa using hlt)⟩
      obtain ⟨ee, he⟩ : ∃ e, [e1, e2, e3, e4, e5][q]? = some e := ⟨_, List.getElem?_eq_getElem (by simpa using hlt)⟩
      have CC := Lib.hid (HXL.out q hlt y ee hy he)
      have BY := Lib.hid ((HGL.out q y hy).below HBEL.out (by rw [HSZ.out]; omega))
      have TY := Lib.hid ((HBEL.out.cell (p := ⟨g + 1, q, none⟩) (by rw [HSZ.out]; show g + 1 < _; omega)).trans (HTL.out q ee he))
      clear hy he
      obtain ⟨yk, yn, ys⟩ := y
      simp only at CC BY
      have qy := veq_refl yk yn ys
      have hq1 : (q : Int) < 5 := by omega
      go_wp2_with fail
      refine (CC.out _).mono ?_
      rintro e w7 ⟨rfl, hb7⟩
      have HB7 := Lib.hid ((below_trans HBEL.out hb7).alloc (below_trans HBEL.out hb7).size (.cells #[.int .i64 yk, .int .i64 yn, .string ys] 23))
      obtain ⟨g0, g1, g2⟩ := (((BY.out.up hb7).alloc (.cells #[.int .i64 yk, .int .i64 yn, .string ys] 23))).grown
      obtain ⟨f0, f1, f2⟩ := (Box.new w7 yk yn ys).grown
      have t0 := cell_regrown ((((Below.refl _ _).alloc hb7.size (.cells #[.int .i64 yk, .int .i64 yn, .string ys] 23) : Below _ w7 _).cell (p := ⟨g + 1, q, none⟩) (block_lt_of_cell TY.out)).trans ((hb7.cell (p := ⟨g + 1, q, none⟩) (block_lt_of_cell TY.out)).trans TY.out))
      clear hb7
      go_wp2_with fail
      refine wp_region_quiet_below (by kernel_rfl) (by kernel_rfl) ?_
      repeat (go_big_quiet_step (fail))
      refine wpQuiet_nil ?_
      intro _ hw'
      obtain ⟨p, rfl⟩ := hw'
      go_wp2
      go_roundw
      case rel => exact ⟨q + 1, by omega, by go_num, below_trans HB7.out (below_regrown _ _ _)⟩
      case measure => simp [intOf]; omega
    · obtain rfl : q = 5 := by omega
      have q6 := veq_refl k6 n6 s6
      have q7 := veq_refl k7 n7 s7
      clear HXL HGL HTL HML HBEL
      go_wp2_with fail
      refine (N1.out _).mono ?_
      rintro e w11 ⟨rfl, hb11⟩
      have HM11 := Lib.hid (below_trans HM10.out hb11)
      clear hb11 hbel c0 c1 c2 d0 d1 d2 hzz
      obtain ⟨⟨c0, c1, c2⟩, ⟨d0, d1, d2⟩, hbel, hzz⟩ := HT.out (w11.alloc (.cells #[.int .i64 k6, .int .i64 n6, .string s6] 23)) (HM11.out.alloc HM11.out.size (.cells #[.int .i64 k6, .int .i64 n6, .string s6] 23))
      obtain ⟨r11_0, r11_1, r11_2⟩ := Box.new w11 k6 n6 s6
      go_wp2_with fail
      refine (N2.out _).mono ?_
      rintro e w12 ⟨rfl, hb12⟩
      have HM12 := Lib.hid (below_step HM11.out hb12)
      have R11 := Lib.hid ((Box.new w11 k6 n6 s6).up hb12)
      clear hb12 hbel c0 c1 c2 d0 d1 d2 hzz r11_0 r11_1 r11_2
      obtain ⟨⟨c0, c1, c2⟩, ⟨d0, d1, d2⟩, hbel, hzz⟩ := HT.out (w12.alloc (.cells #[.int .i64 k6, .int .i64 n6, .string s6] 23)) (HM12.out.alloc HM12.out.size (.cells #[.int .i64 k6, .int .i64 n6, .string s6] 23))
      obtain ⟨r11_0, r11_1, r11_2⟩ := R11.out.alloc (.cells #[.int .i64 k6, .int .i64 n6, .string s6] 23)
      obtain ⟨r12_0, r12_1, r12_2⟩ := Box.new w12 k6 n6 s6
      go_wp2_with fail
      refine (J1.out _).mono ?_
      rintro e w13 ⟨rfl, hb13⟩
      have HM13 := Lib.hid (below_step HM12.out hb13)
      replace R11 := Lib.hid ((R11.out.alloc _).up hb13)
      have R12 := Lib.hid ((Box.new w12 k6 n6 s6).up hb13)
      clear hb13 hbel c0 c1 c2 d0 d1 d2 hzz r11_0 r11_1 r11_2 r12_0 r12_1 r12_2
      obtain ⟨⟨c0, c1, c2⟩, ⟨d0, d1, d2⟩, hbel, hzz⟩ := HT.out (w13.alloc (.cells #[.int .i64 k7, .int .i64 n7, .string s7] 23)) (HM13.out.alloc HM13.out.size (.cells #[.int .i64 k7, .int .i64 n7, .string s7] 23))
      obtain ⟨r11_0, r11_1, r11_2⟩ := R11.out.alloc (.cells #[.int .i64 k7, .int .i64 n7, .string s7] 23)
      obtain ⟨r12_0, r12_1, r12_2⟩ := R12.out.alloc (.cells #[.int .i64 k7, .int .i64 n7, .string s7] 23)
      obtain ⟨r13_0, r13_1, r13_2⟩ := Box.new w13 k7 n7 s7
      go_wp2_with fail
      refine (J2.out _).mono ?_
      rintro e w14 ⟨rfl, hb14⟩
      have HM14 := Lib.hid (below_step HM13.out hb14)
      replace R11 := Lib.hid ((R11.out.alloc _).up hb14)
      replace R12 := Lib.hid ((R12.out.alloc _).up hb14)
      have R13 := Lib.hid ((Box.new w13 k7 n7 s7).up hb14)
      clear hb14 hbel c0 c1 c2 d0 d1 d2 hzz r11_0 r11_1 r11_2 r12_0 r12_1 r12_2 r13_0 r13_1 r13_2
      obtain ⟨⟨c0, c1, c2⟩, ⟨d0, d1, d2⟩, hbel, hzz⟩ := HT.out (w14.alloc (.cells #[.int .i64 k7, .int .i64 n7, .string s7] 23)) (HM14.out.alloc HM14.out.size (.cells #[.int .i64 k7, .int .i64 n7, .string s7] 23))
      obtain ⟨r11_0, r11_1, r11_2⟩ := R11.out.alloc (.cells #[.int .i64 k7, .int .i64 n7, .string s7] 23)
      obtain ⟨r12_0, r12_1, r12_2⟩ := R12.out.alloc (.cells #[.int .i64 k7, .int .i64 n7, .string s7] 23)
      obtain ⟨r13_0, r13_1, r13_2⟩ := R13.out.alloc (.cells #[.int .i64 k7, .int .i64 n7, .string s7] 23)
      obtain ⟨r14_0, r14_1, r14_2⟩ := Box.new w14 k7 n7 s7
      go_wp2_with fail
      refine (HA.out _ (HW.out.below hbel)).mono ?_
      rintro e w15 ⟨rfl, hb15⟩
      have HB := Lib.hid (below_trans hbel hb15)
      clear hb15 hbel
      go_wp2
      go_ret
      exact ⟨rfl, HB.out⟩
end Go.Proofs.YtjfpkjpicalfmaaDoor.valueReckons
