/-
  THE WALK OF ValueOrder.
-/
import Derived.Test.YtjfpkjpicalfmaaDoorKit
namespace Go.Proofs.YtjfpkjpicalfmaaDoor.valueOrder
open Go.RowKit Go.Sort
attribute [local go_sem high] run_eq23 run_neq23 run_eq9

set_option maxRecDepth 100000 in
set_option maxHeartbeats 8000000 in
theorem walked (a b c : V) (w : World) (ha : VOk a) (hb : VOk b) (hc : VOk c) (hw : Sm w) :
    Calls Tryd.prog 8 #[a.agg, b.agg, c.agg] w fun e w' => e = .returned (.bool true) ∧ Below w.heap.size w w' := by
  have A1 := Lib.hid (may_any a.k a.n a.s ha.s)
  have A2 := Lib.hid (may_any b.k b.n b.s hb.s)
  have A3 := Lib.hid (may_any c.k c.n c.s hc.s)
  have C1 := Lib.hid (compare_any a b ha.s hb.s)
  have C2 := Lib.hid (compare_any b c hb.s hc.s)
  have C3 := Lib.hid (compare_any b a hb.s ha.s)
  have C4 := Lib.hid (compare_any a c ha.s hc.s)
  have HT := Lib.hid (fun (w' : World) (h : Below (P3 w a b c).heap.size (P3 w a b c) w') => p3_boxes h)
  have HA := Lib.hid (fun (W : World) (h : Sm W) => awake_any W h)
  have HM0 := Lib.hid (Below.refl (P3 w a b c).heap.size (P3 w a b c))
  have HW := Lib.hid hw
  have HF : Hid (a.may = true → b.may = true → c.may = true → cmpV a b = ord a b ∧ cmpV b c = ord b c ∧ cmpV b a = ord b a ∧ cmpV a c = ord a c) := by
    show (a.may = true → b.may = true → c.may = true → cmpV a b = ord a b ∧ cmpV b c = ord b c ∧ cmpV b a = ord b a ∧ cmpV a c = ord a c)
    intro h1 h2 h3
    simp [cmpV, h1, h2, h3]
  have HV : Hid (a.may = true → b.may = true → veq a.k a.n a.s b.k b.n b.s = decide (ord a b = 0)) := by
    show (a.may = true → b.may = true → veq a.k a.n a.s b.k b.n b.s = decide (ord a b = 0))
    intro h1 h2
    by_cases h : ord a b = 0
    · have e := (ord_zero h1 h2).1 h
      subst e
      simp [veq_refl, h]
    · have e : ¬ a = b := fun e => h ((ord_zero h1 h2).2 e)
      have : veq a.k a.n a.s b.k b.n b.s = false := by
        rw [Bool.eq_false_iff]
        intro hv
        obtain ⟨e1, e2, e3⟩ := veq_eq.1 hv
        apply e
        cases a; cases b
        simp only at e1 e2 e3
        subst e1 e2 e3
        rfl
      simp [this, h]
  have HE : Hid ((a.may && b.may && c.may) = false → cmpE a b = 5 ∨ (cmpE a b = 0 ∧ cmpE b c = 5)) := by
    show ((a.may && b.may && c.may) = false → cmpE a b = 5 ∨ (cmpE a b = 0 ∧ cmpE b c = 5))
    unfold cmpE
    cases a.may <;> cases b.may <;> cases c.may <;> simp
  have HO1 := Lib.hid (ord_bd a b)
  have HO2 := Lib.hid (ord_bd b c)
  have HO3 := Lib.hid (ord_bd a c)
  have HO4 := Lib.hid (ord_anti a b)
  have HO5 := Lib.hid (ord_trans a b c)
  have HO6 : Hid (0 ≤ ord a b → 0 ≤ ord b c → 0 ≤ ord a c ∧ (0 < ord a b → 0 < ord a c) ∧ (0 < ord b c → 0 < ord a c)) := by
    show (0 ≤ ord a b → 0 ≤ ord b c → 0 ≤ ord a c ∧ (0 < ord a b → 0 < ord a c) ∧ (0 < ord b c → 0 < ord a c))
    have t := ord_trans c b a
    rw [ord_anti b c, ord_anti a b, ord_anti a c] at t
    intro h1 h2
    have := t (by omega) (by omega)
    omega
  have em1 : V.may a = may a.k a.n a.s := rfl
  have em2 : V.may b = may b.k b.n b.s := rfl
  have em3 : V.may c = may c.k c.n c.s := rfl
  rw [em1, em2, em3] at HF HE
  rw [em1, em2] at HV
  generalize cmpE a b = e1 at C1 HE
  generalize cmpE b c = e2 at C2 HE
  generalize cmpE b a = e3 at C3
  generalize cmpE a c = e4 at C4
  generalize cmpV a b = v1 at C1 HF
  generalize cmpV b c = v2 at C2 HF
  generalize cmpV b a = v3 at C3 HF
  generalize cmpV a c = v4 at C4 HF
  generalize ord a b = r1 at HF HV HO1 HO4 HO5 HO6
  generalize ord b c = r2 at HF HO2 HO5 HO6
  generalize ord b a = r3 at HF HO4
  generalize ord a c = r4 at HF HO3 HO5 HO6
  clear ha hb hc hw em1 em2 em3
  unfold V.agg
  generalize hM2 : P3 w a b c = MM at HT HM0
  have hM3 := hM2
  unfold P3 M2 at hM3
  obtain ⟨ak, an, az⟩ := a
  obtain ⟨bk, bn, bs⟩ := b
  obtain ⟨ck, cn, cs⟩ := c
  simp only at A1 A2 A3 C1 C2 C3 C4 HT HF HE HV hM3 ⊢
  have HMM := Lib.hid hM3
  clear hM2 hM3
  generalize may ak an az = ma at A1 HF HE HV
  generalize may bk bn bs = mb at A2 HF HE HV
  generalize may ck cn cs = mc at A3 HF HE
  generalize hvq : veq ak an az bk bn bs = vq at HV
  go_enter Tryd.func8, Tryd.ntmps8
  go_wp2_with fail
  refine (A1.out _).mono ?_
  rintro e w1 ⟨rfl, hb1⟩
  rw [HMM.out] at hb1
  have HM1 := Lib.hid hb1
  clear hb1
  obtain ⟨⟨c0, c1, c2⟩, ⟨d0, d1, d2⟩, ⟨f0, f1, f2⟩, hbel⟩ := HT.out w1 HM1.out
  cases ma
  · have hee := HE.out (by simp)
    clear HE HF HV
    go_wp2_with fail
    refine (C1.out _).mono ?_
    rintro e w2 ⟨rfl, hb2⟩
    have HM2 := Lib.hid (below_trans HM1.out hb2)
    clear hb2 c0 c1 c2 d0 d1 d2 f0 f1 f2 hbel
    obtain ⟨⟨c0, c1, c2⟩, ⟨d0, d1, d2⟩, ⟨f0, f1, f2⟩, hbel⟩ := HT.out w2 HM2.out
    go_wp2_with fail
    refine (C2.out _).mono ?_
    rintro e w3 ⟨rfl, hb3⟩
    have HM3 := Lib.hid (below_trans HM2.out hb3)
    clear hb3 c0 c1 c2 d0 d1 d2 f0 f1 f2 hbel
    obtain ⟨⟨c0, c1, c2⟩, ⟨d0, d1, d2⟩, ⟨f0, f1, f2⟩, hbel⟩ := HT.out w3 HM3.out
    rcases hee with rfl | ⟨rfl, rfl⟩
    · go_wp2_with fail
      refine (HA.out _ (HW.out.below hbel)).mono ?_
      rintro e w4 ⟨rfl, hb4⟩
      have HB := Lib.hid (below_trans hbel hb4)
      clear hb4 hbel
      go_wp2
      go_ret
      exact ⟨rfl, HB.out⟩
    · go_wp2_with fail
      refine (HA.out _ (HW.out.below hbel)).mono ?_
      rintro e w4 ⟨rfl, hb4⟩
      have HB := Lib.hid (below_trans hbel hb4)
      clear hb4 hbel
      go_wp2
      go_ret
      exact ⟨rfl, HB.out⟩
  · go_wp2_with fail
    refine (A2.out _).mono ?_
    rintro e w2 ⟨rfl, hb2⟩
    have HM2 := Lib.hid (below_trans HM1.out hb2)
    clear hb2 c0 c1 c2 d0 d1 d2 f0 f1 f2 hbel
    obtain ⟨⟨c0, c1, c2⟩, ⟨d0, d1, d2⟩, ⟨f0, f1, f2⟩, hbel⟩ := HT.out w2 HM2.out
    cases mb
    · have hee := HE.out (by simp)
      clear HE HF HV
      go_wp2_with fail
      refine (C1.out _).mono ?_
      rintro e w3 ⟨rfl, hb3⟩
      have HM3 := Lib.hid (below_trans HM2.out hb3)
      clear hb3 c0 c1 c2 d0 d1 d2 f0 f1 f2 hbel
      obtain ⟨⟨c0, c1, c2⟩, ⟨d0, d1, d2⟩, ⟨f0, f1, f2⟩, hbel⟩ := HT.out w3 HM3.out
      go_wp2_with fail
      refine (C2.out _).mono ?_
      rintro e w4 ⟨rfl, hb4⟩
      have HM4 := Lib.hid (below_trans HM3.out hb4)
      clear hb4 c0 c1 c2 d0 d1 d2 f0 f1 f2 hbel
      obtain ⟨⟨c0, c1, c2⟩, ⟨d0, d1, d2⟩, ⟨f0, f1, f2⟩, hbel⟩ := HT.out w4 HM4.out
      rcases hee with rfl | ⟨rfl, rfl⟩
      · go_wp2_with fail
        refine (HA.out _ (HW.out.below hbel)).mono ?_
        rintro e w5 ⟨rfl, hb5⟩
        have HB := Lib.hid (below_trans hbel hb5)
        clear hb5 hbel
        go_wp2
        go_ret
        exact ⟨rfl, HB.out⟩
      · go_wp2_with fail
        refine (HA.out _ (HW.out.below hbel)).mono ?_
        rintro e w5 ⟨rfl, hb5⟩
        have HB := Lib.hid (below_trans hbel hb5)
        clear hb5 hbel
        go_wp2
        go_ret
        exact ⟨rfl, HB.out⟩
    · go_wp2_with fail
      refine (A3.out _).mono ?_
      rintro e w3 ⟨rfl, hb3⟩
      have HM3 := Lib.hid (below_trans HM2.out hb3)
      clear hb3 c0 c1 c2 d0 d1 d2 f0 f1 f2 hbel
      obtain ⟨⟨c0, c1, c2⟩, ⟨d0, d1, d2⟩, ⟨f0, f1, f2⟩, hbel⟩ := HT.out w3 HM3.out
      cases mc
      · have hee := HE.out (by simp)
        clear HE HF HV
        go_wp2_with fail
        refine (C1.out _).mono ?_
        rintro e w4 ⟨rfl, hb4⟩
        have HM4 := Lib.hid (below_trans HM3.out hb4)
        clear hb4 c0 c1 c2 d0 d1 d2 f0 f1 f2 hbel
        obtain ⟨⟨c0, c1, c2⟩, ⟨d0, d1, d2⟩, ⟨f0, f1, f2⟩, hbel⟩ := HT.out w4 HM4.out
        go_wp2_with fail
        refine (C2.out _).mono ?_
        rintro e w5 ⟨rfl, hb5⟩
        have HM5 := Lib.hid (below_trans HM4.out hb5)
        clear hb5 c0 c1 c2 d0 d1 d2 f0 f1 f2 hbel
        obtain ⟨⟨c0, c1, c2⟩, ⟨d0, d1, d2⟩, ⟨f0, f1, f2⟩, hbel⟩ := HT.out w5 HM5.out
        rcases hee with rfl | ⟨rfl, rfl⟩
        · go_wp2_with fail
          refine (HA.out _ (HW.out.below hbel)).mono ?_
          rintro e w6 ⟨rfl, hb6⟩
          have HB := Lib.hid (below_trans hbel hb6)
          clear hb6 hbel
          go_wp2
          go_ret
          exact ⟨rfl, HB.out⟩
        · go_wp2_with fail
          refine (HA.out _ (HW.out.below hbel)).mono ?_
          rintro e w6 ⟨rfl, hb6⟩
          have HB := Lib.hid (below_trans hbel hb6)
          clear hb6 hbel
          go_wp2
          go_ret
          exact ⟨rfl, HB.out⟩
      · obtain ⟨rfl, rfl, rfl, rfl⟩ := HF.out (by simp) (by simp) (by simp)
        have hv := HV.out (by simp) (by simp)
        clear HE HF HV
        go_wp2_with fail
        refine (C1.out _).mono ?_
        rintro e w4 ⟨rfl, hb4⟩
        have HM4 := Lib.hid (below_trans HM3.out hb4)
        clear hb4 c0 c1 c2 d0 d1 d2 f0 f1 f2 hbel
        obtain ⟨⟨c0, c1, c2⟩, ⟨d0, d1, d2⟩, ⟨f0, f1, f2⟩, hbel⟩ := HT.out w4 HM4.out
        go_wp2_with fail
        refine (C3.out _).mono ?_
        rintro e w5 ⟨rfl, hb5⟩
        have HM5 := Lib.hid (below_trans HM4.out hb5)
        clear hb5 c0 c1 c2 d0 d1 d2 f0 f1 f2 hbel
        obtain ⟨⟨c0, c1, c2⟩, ⟨d0, d1, d2⟩, ⟨f0, f1, f2⟩, hbel⟩ := HT.out w5 HM5.out
        go_wp2_with fail
        refine (C2.out _).mono ?_
        rintro e w6 ⟨rfl, hb6⟩
        have HM6 := Lib.hid (below_trans HM5.out hb6)
        clear hb6 c0 c1 c2 d0 d1 d2 f0 f1 f2 hbel
        obtain ⟨⟨c0, c1, c2⟩, ⟨d0, d1, d2⟩, ⟨f0, f1, f2⟩, hbel⟩ := HT.out w6 HM6.out
        go_wp2_with fail
        refine (C4.out _).mono ?_
        rintro e w7 ⟨rfl, hb7⟩
        have HM7 := Lib.hid (below_trans HM6.out hb7)
        clear hb7 c0 c1 c2 d0 d1 d2 f0 f1 f2 hbel
        obtain ⟨⟨c0, c1, c2⟩, ⟨d0, d1, d2⟩, ⟨f0, f1, f2⟩, hbel⟩ := HT.out w7 HM7.out
        have hO1 := HO1.out
        have hO2 := HO2.out
        have hO3 := HO3.out
        have hO4 := HO4.out
        have hO5 := HO5.out
        have hO6 := HO6.out
        clear HO1 HO2 HO3 HO4 HO5 HO6 C1 C2 C3 C4 A1 A2 A3
        subst hO4
        rcases hO1 with rfl | rfl | rfl <;> rcases hO2 with rfl | rfl | rfl <;> rcases hO3 with rfl | rfl | rfl <;> first | (exfalso; omega) | skip
        all_goals
          clear hO5 hO6
          simp at hv
          subst hv
          go_wp2_with fail
          refine (HA.out _ (HW.out.below hbel)).mono ?_
          rintro e w8 ⟨rfl, hb8⟩
          have HB := Lib.hid (below_trans hbel hb8)
          clear hb8 hbel
          go_wp2
          go_ret
          exact ⟨rfl, HB.out⟩
end Go.Proofs.YtjfpkjpicalfmaaDoor.valueOrder
