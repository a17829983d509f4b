/-
  THE WALK OF the document's exact.
-/
import Derived.Test.YtjfpkjpicalfmaaDoorWalkS
import Derived.Test.YtjfpkjpicalfmaaDoorWalkR
namespace Go.Proofs.YtjfpkjpicalfmaaDoor
open Go.RowKit Go.Sort

def Exact (i : Nat) (x y : Int) (w : World) (e : Ending) (w' : World) : Prop :=
  ∃ n, e = .returned (.tuple #[.int .i64 n, .bool (decide (In64 (opI i x y)))]) ∧ (In64 (opI i x y) → n = opI i x y) ∧ Below w.heap.size w w'

set_option maxHeartbeats 1000000 in
theorem exact0 (x y : Int) (hx : In64 x) (hy : In64 y) (w : World) : Calls Tryd.prog 74 #[.int .i64 0, .int .i64 x, .int .i64 y] w (Exact 0 x y w) := by
  have S1 := Lib.hid (size_any x hx)
  have S2 := Lib.hid (size_any y hy)
  have S3 := Lib.hid (summed_any x y hx hy)
  unfold Exact
  have HI : Hid (opI 0 x y = x + y) := rfl
  rw [HI.out]
  have HF : Hid (In64 (x + y) → (if In64 (x + y) then x + y else 0) = x + y) := by
    show (In64 (x + y) → (if In64 (x + y) then x + y else 0) = x + y)
    intro h; rw [if_pos h]
  clear hx hy
  generalize decide (In64 (x + y)) = q at S3 ⊢
  generalize (if In64 (x + y) then x + y else 0) = t at S3 HF
  generalize x + y = z at HF ⊢
  generalize (x.natAbs : Int) = m1 at S1
  generalize (y.natAbs : Int) = m2 at S2
  go_enter Tryd.func74, Tryd.ntmps74
  go_wp2_with fail
  refine (S1.out _).mono ?_
  rintro e w1 ⟨rfl, hb1⟩
  have HB1 := Lib.hid hb1
  clear hb1
  go_wp2_with fail
  refine (S2.out _).mono ?_
  rintro e w2 ⟨rfl, hb2⟩
  have HB2 := Lib.hid (below_trans HB1.out hb2)
  clear hb2
  go_wp2_with fail
  refine (S3.out _).mono ?_
  rintro e w3 ⟨rfl, hb3⟩
  have HB3 := Lib.hid (below_trans HB2.out hb3)
  clear hb3
  go_wp2
  go_ret2
  exact ⟨_, rfl, HF.out, HB3.out⟩
/- the rest -/
set_option maxHeartbeats 1000000 in
theorem exact1 (x y : Int) (hx : In64 x) (hy : In64 y) (w : World) : Calls Tryd.prog 74 #[.int .i64 1, .int .i64 x, .int .i64 y] w (Exact 1 x y w) := by
  have S1 := Lib.hid (size_any x hx)
  have S2 := Lib.hid (size_any y hy)
  unfold Exact
  have HI : Hid (opI 1 x y = x - y) := rfl
  rw [HI.out]
  by_cases hm : y = -9223372036854775808
  · subst hm
    have e1 : decide (In64 (x - -9223372036854775808)) = decide (x < 0) := decide_eq_decide.2 (by unfold In64 at *; omega)
    have HF : Hid (In64 (x - -9223372036854775808) → wrap64 (IntKind.u64.wrap (IntKind.u64.wrap x + 9223372036854775808)) = x - -9223372036854775808) := by
      show (In64 (x - -9223372036854775808) → wrap64 (IntKind.u64.wrap (IntKind.u64.wrap x + 9223372036854775808)) = x - -9223372036854775808)
      intro h
      unfold In64 at *
      simp [IntKind.wrap, IntKind.signed, IntKind.bits]
      unfold wrap64
      omega
    rw [e1]
    obtain ⟨h1, h2⟩ := hx
    clear e1 hy
    generalize x - -9223372036854775808 = z at HF ⊢
    obtain ⟨u, hu⟩ : ∃ u, wrap64 (IntKind.u64.wrap (IntKind.u64.wrap x + 9223372036854775808)) = u := ⟨_, rfl⟩
    rw [hu] at HF
    generalize (x.natAbs : Int) = m1 at S1
    generalize ((-9223372036854775808 : Int).natAbs : Int) = m2 at S2
    generalize hq : decide (x < 0) = q
    go_enter Tryd.func74, Tryd.ntmps74
    go_wp2_with fail
    refine (S1.out _).mono ?_
    rintro e w1 ⟨rfl, hb1⟩
    have HB1 := Lib.hid hb1
    clear hb1
    go_wp2_with fail
    refine (S2.out _).mono ?_
    rintro e w2 ⟨rfl, hb2⟩
    have HB2 := Lib.hid (below_trans HB1.out hb2)
    clear hb2
    go_wp2
    go_ret2
    exact ⟨u, by rw [← hu, ← hq]; rfl, HF.out, HB2.out⟩
  · have hyb : (y == -9223372036854775808) = false := by simpa using hm
    have hn : In64 (-y) := by unfold In64 at *; omega
    have S3 := Lib.hid (summed_any x (-y) hx hn)
    have HF : Hid (In64 (x - y) → (if In64 (x - y) then x - y else 0) = x - y) := by
      show (In64 (x - y) → (if In64 (x - y) then x - y else 0) = x - y)
      intro h; rw [if_pos h]
    have e0 : x + -y = x - y := by omega
    rw [e0] at S3
    obtain ⟨h1, h2⟩ := hn
    clear hx hy hm e0
    generalize decide (In64 (x - y)) = q at S3 ⊢
    generalize (if In64 (x - y) then x - y else 0) = t at S3 HF
    generalize x - y = z at HF ⊢
    generalize (x.natAbs : Int) = m1 at S1
    generalize (y.natAbs : Int) = m2 at S2
    go_enter Tryd.func74, Tryd.ntmps74
    go_wp2_with fail
    refine (S1.out _).mono ?_
    rintro e w1 ⟨rfl, hb1⟩
    have HB1 := Lib.hid hb1
    clear hb1
    go_wp2_with fail
    refine (S2.out _).mono ?_
    rintro e w2 ⟨rfl, hb2⟩
    have HB2 := Lib.hid (below_trans HB1.out hb2)
    clear hb2
    go_wp2_with fail
    refine (S3.out _).mono ?_
    rintro e w3 ⟨rfl, hb3⟩
    have HB3 := Lib.hid (below_trans HB2.out hb3)
    clear hb3
    go_wp2
    go_ret2
    exact ⟨_, rfl, HF.out, HB3.out⟩

theorem mul_facts (x y : Int) : (sgnQ (x.natAbs * y.natAbs % 18446744073709551616) ((decide (x < 0) != decide (y < 0)) && decide (((x.natAbs * y.natAbs % 18446744073709551616 : Nat) : Int) > 0)) && (((x.natAbs * y.natAbs / 18446744073709551616 : Nat) : Int) == 0)) = decide (In64 (x * y)) ∧
    (In64 (x * y) → sgnN (x.natAbs * y.natAbs % 18446744073709551616) ((decide (x < 0) != decide (y < 0)) && decide (((x.natAbs * y.natAbs % 18446744073709551616 : Nat) : Int) > 0)) = x * y) := by
  have hs := mul_sgn x y
  generalize x.natAbs * y.natAbs = P at *
  by_cases h : P < 18446744073709551616
  · rw [Nat.mod_eq_of_lt h, Nat.div_eq_of_lt h]
    obtain ⟨a, b⟩ := sgn_of h hs
    rw [a]
    exact ⟨by simp, b⟩
  · have h1 : ¬ In64 (x * y) := by
      rw [hs]
      unfold In64
      split <;> omega
    have h2 : (((P / 18446744073709551616 : Nat) : Int) == 0) = false := by
      have : P / 18446744073709551616 ≠ 0 := by omega
      simp only [beq_eq_false_iff_ne]
      omega
    rw [h2, decide_eq_false h1]
    exact ⟨by simp, fun k => absurd k h1⟩
theorem pos_nat (m : Nat) : decide ((m : Int) > 0) = decide (0 < m) := decide_eq_decide.2 (by omega)
theorem abs_lt {x : Int} (hx : In64 x) : x.natAbs < 18446744073709551616 := by unfold In64 at hx; omega
set_option maxRecDepth 100000 in
set_option maxHeartbeats 2000000 in
theorem exact2 (x y : Int) (hx : In64 x) (hy : In64 y) (w : World) : Calls Tryd.prog 74 #[.int .i64 2, .int .i64 x, .int .i64 y] w (Exact 2 x y w) := by
  have S1 := Lib.hid (size_any x hx)
  have S2 := Lib.hid (size_any y hy)
  have S3 := Lib.hid (Tryd.bits_Mul64 x.natAbs y.natAbs (abs_lt hx) (abs_lt hy))
  have SS := Lib.hid signed_any
  obtain ⟨f1, f2⟩ := mul_facts x y
  rw [pos_nat] at f1 f2
  unfold Exact
  have HI : Hid (opI 2 x y = x * y) := rfl
  rw [HI.out, ← f1]
  have HF := Lib.hid f2
  clear f1 f2 hx hy HI
  generalize x.natAbs * y.natAbs % 18446744073709551616 = lo at S3 HF ⊢
  generalize x.natAbs * y.natAbs / 18446744073709551616 = hi at S3 HF ⊢
  generalize x * y = z at HF ⊢
  generalize x.natAbs = m1 at S1 S3
  generalize y.natAbs = m2 at S2 S3
  generalize hdx : decide (x < 0) = dx at HF ⊢
  generalize hdy : decide (y < 0) = dy at HF ⊢
  generalize hs : (dx != dy) = sg at HF ⊢
  generalize hg : decide (0 < lo) = gg at HF ⊢
  generalize hh : ((hi : Int) == 0) = zz at HF ⊢
  generalize hb : (sg && gg) = bb at HF ⊢
  generalize hok : sgnQ lo bb = ok at HF ⊢
  generalize hov : (ok && zz) = ov at HF ⊢
  have HOK := Lib.hid hok
  have HOV := Lib.hid hov
  have HH := Lib.hid hh
  have HG := Lib.hid hg
  clear hok hov hh hg
  cases dx <;> cases dy <;> cases sg <;> first | (exfalso; revert hs; decide) | skip
  all_goals
    clear hs
    first | rw [Bool.false_and] at hb | rw [Bool.true_and] at hb
    subst hb
    go_enter Tryd.func74, Tryd.ntmps74
    go_wp2_with fail
    refine (S1.out _).mono ?_
    rintro e w1 ⟨rfl, hb1⟩
    have HB1 := Lib.hid hb1
    clear hb1
    go_wp2_with fail
    refine (S2.out _).mono ?_
    rintro e w2 ⟨rfl, hb2⟩
    have HB2 := Lib.hid (below_trans HB1.out hb2)
    clear hb2
    go_wp2_with fail
    refine (S3.out _).mono ?_
    rintro e w3 ⟨rfl, rfl⟩
    have hg := HG.out
    clear HG
    go_wp2_with fail
    refine (SS.out _ _ _).mono ?_
    rintro e w4 ⟨rfl, hb4⟩
    have HB4 := Lib.hid (below_trans HB2.out hb4)
    clear hb4
    rw [HOK.out]
    clear HOK
    cases ok
    all_goals
      have hov := HOV.out
      first | rw [Bool.false_and] at hov | rw [Bool.true_and] at hov
      clear HOV
      subst hov
      go_wp2
      go_ret2
      exact ⟨_, by first | rfl | (rw [← HH.out]; rfl), HF.out, HB4.out⟩
end Go.Proofs.YtjfpkjpicalfmaaDoor
