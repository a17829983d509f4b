/-
  THE WALK OF the document's exact, of a quotient and of what is left over.
-/
import Derived.Test.YtjfpkjpicalfmaaDoorWalkT
namespace Go.Proofs.YtjfpkjpicalfmaaDoor
open Go.RowKit Go.Sort

theorem quo_facts {x y : Int} (hx : In64 x) : sgnQ (x.natAbs / y.natAbs) ((decide (x < 0) != decide (y < 0)) && decide (0 < x.natAbs / y.natAbs)) = decide (In64 (x.tdiv y)) ∧
    (In64 (x.tdiv y) → sgnN (x.natAbs / y.natAbs) ((decide (x < 0) != decide (y < 0)) && decide (0 < x.natAbs / y.natAbs)) = x.tdiv y) := by
  have h : x.natAbs / y.natAbs < 18446744073709551616 := Nat.lt_of_le_of_lt (Nat.div_le_self _ _) (abs_lt hx)
  have := sgn_of h (div_sgn x y)
  rw [pos_nat] at this
  exact this
theorem rem_facts {x y : Int} (hx : In64 x) : sgnQ (x.natAbs % y.natAbs) (decide (x < 0) && decide (0 < x.natAbs % y.natAbs)) = decide (In64 (x.tmod y)) ∧
    (In64 (x.tmod y) → sgnN (x.natAbs % y.natAbs) (decide (x < 0) && decide (0 < x.natAbs % y.natAbs)) = x.tmod y) := by
  have h : x.natAbs % y.natAbs < 18446744073709551616 := Nat.lt_of_le_of_lt (Nat.mod_le _ _) (abs_lt hx)
  have := sgn_of h (mod_sgn x y)
  rw [pos_nat] at this
  exact this
theorem quo_wrap (p q : Nat) (hp : p < 18446744073709551616) : IntKind.u64.wrap ((p : Int) / (q : Int)) = ((p / q : Nat) : Int) := by
  have e : (p : Int) / (q : Int) = ((p / q : Nat) : Int) := rfl
  rw [e]
  have := Nat.div_le_self p q
  generalize p / q = m at *
  simp only [IntKind.wrap, IntKind.signed, IntKind.bits]
  simp
  omega
theorem rem_wrap (p q : Nat) (_hp : p < 18446744073709551616) : (p : Int) % (q : Int) = ((p % q : Nat) : Int) := rfl

set_option maxRecDepth 100000 in
set_option maxHeartbeats 2000000 in
theorem exact3 (x y : Int) (hx : In64 x) (hy : In64 y) (h0 : y ≠ 0) (w : World) : Calls Tryd.prog 74 #[.int .i64 3, .int .i64 x, .int .i64 y] w (Exact 3 x y w) := by
  have S1 := Lib.hid (size_any x hx)
  have S2 := Lib.hid (size_any y hy)
  have SS := Lib.hid signed_any
  obtain ⟨f1, f2⟩ := quo_facts (y := y) hx
  have hq := quo_wrap x.natAbs y.natAbs (abs_lt hx)
  have hn : ((y.natAbs : Int) == 0) = false := by simp only [beq_eq_false_iff_ne]; omega
  have hn2 : ¬ ((y.natAbs : Int) = 0) := by omega
  unfold Exact
  have HI : Hid (opI 3 x y = x.tdiv y) := rfl
  rw [HI.out, ← f1]
  have HF := Lib.hid f2
  clear f1 f2 hx hy HI h0
  generalize x.natAbs / y.natAbs = lo at hq HF ⊢
  generalize x.tdiv y = z at HF ⊢
  generalize x.natAbs = m1 at S1 hq
  generalize y.natAbs = m2 at S2 hq hn hn2
  generalize hdx : decide (x < 0) = dx at HF ⊢
  generalize hdy : decide (y < 0) = dy at HF ⊢
  generalize hs : (dx != dy) = sg at HF ⊢
  generalize hg : decide (0 < lo) = gg at HF ⊢
  generalize hb : (sg && gg) = bb at HF ⊢
  generalize hok : sgnQ lo bb = ok at HF ⊢
  have HOK := Lib.hid hok
  have HG := Lib.hid hg
  clear hok hg
  cases dx <;> cases dy <;> cases sg <;> first | (exfalso; revert hs; decide) | skip
  all_goals
    clear hs
    first | rw [Bool.false_and] at hb | rw [Bool.true_and] at hb
    subst hb
    go_enter Tryd.func74, Tryd.ntmps74
    go_wp2_with fail
    refine (S1.out _).mono ?_
    rintro e w1 ⟨rfl, hb1⟩
    have HB1 := Lib.hid hb1
    clear hb1
    go_wp2_with fail
    refine (S2.out _).mono ?_
    rintro e w2 ⟨rfl, hb2⟩
    have HB2 := Lib.hid (below_trans HB1.out hb2)
    clear hb2
    have hg := HG.out
    clear HG
    go_wp2_with fail
    refine wp_region_quiet_below (by kernel_rfl) (by kernel_rfl) ?_
    repeat (go_big_quiet_step ((go_at_call 93; exact Calls.regrown_of (SS.out _ _ _))))
    refine wpQuiet_nil ?_
    intro _ hw'
    obtain ⟨p, rfl⟩ := hw'
    go_wp2
    go_ret2
    exact ⟨_, by rw [← HOK.out]; rfl, HF.out, below_trans HB2.out (below_regrown _ _ _)⟩
set_option maxRecDepth 100000 in
set_option maxHeartbeats 2000000 in
theorem exact4 (x y : Int) (hx : In64 x) (hy : In64 y) (h0 : y ≠ 0) (w : World) : Calls Tryd.prog 74 #[.int .i64 4, .int .i64 x, .int .i64 y] w (Exact 4 x y w) := by
  have S1 := Lib.hid (size_any x hx)
  have S2 := Lib.hid (size_any y hy)
  have SS := Lib.hid signed_any
  obtain ⟨f1, f2⟩ := rem_facts (y := y) hx
  have hq := rem_wrap x.natAbs y.natAbs (abs_lt hx)
  have hn : ((y.natAbs : Int) == 0) = false := by simp only [beq_eq_false_iff_ne]; omega
  have hn2 : ¬ ((y.natAbs : Int) = 0) := by omega
  unfold Exact
  have HI : Hid (opI 4 x y = x.tmod y) := rfl
  rw [HI.out, ← f1]
  have HF := Lib.hid f2
  clear f1 f2 hx hy HI h0
  generalize x.natAbs % y.natAbs = lo at hq HF ⊢
  generalize x.tmod y = z at HF ⊢
  generalize x.natAbs = m1 at S1 hq
  generalize y.natAbs = m2 at S2 hq hn hn2
  generalize hdx : decide (x < 0) = dx at HF ⊢
  generalize hdy : decide (y < 0) = dy
  generalize hg : decide (0 < lo) = gg at HF ⊢
  generalize hb : (dx && gg) = bb at HF ⊢
  generalize hok : sgnQ lo bb = ok at HF ⊢
  have HOK := Lib.hid hok
  have HG := Lib.hid hg
  clear hok hg
  cases dx <;> cases dy
  all_goals
    first | rw [Bool.false_and] at hb | rw [Bool.true_and] at hb
    subst hb
    go_enter Tryd.func74, Tryd.ntmps74
    go_wp2_with fail
    refine (S1.out _).mono ?_
    rintro e w1 ⟨rfl, hb1⟩
    have HB1 := Lib.hid hb1
    clear hb1
    go_wp2_with fail
    refine (S2.out _).mono ?_
    rintro e w2 ⟨rfl, hb2⟩
    have HB2 := Lib.hid (below_trans HB1.out hb2)
    clear hb2
    have hg := HG.out
    clear HG
    go_wp2_with fail
    refine wp_region_quiet_below (by kernel_rfl) (by kernel_rfl) ?_
    repeat (go_big_quiet_step ((go_at_call 93; exact Calls.regrown_of (SS.out _ _ _))))
    refine wpQuiet_nil ?_
    intro _ hw'
    obtain ⟨p, rfl⟩ := hw'
    go_wp2
    go_ret2
    exact ⟨_, by rw [← HOK.out]; rfl, HF.out, below_trans HB2.out (below_regrown _ _ _)⟩
end Go.Proofs.YtjfpkjpicalfmaaDoor
