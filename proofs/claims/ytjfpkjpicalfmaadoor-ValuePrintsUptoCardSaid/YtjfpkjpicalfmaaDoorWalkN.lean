/-
  THE WALKS OF what reckons: the closures of Add, Sub, Mul, Div, Mod.
-/
import Derived.Test.YtjfpkjpicalfmaaDoorWalkA
import Derived.IntWalk
namespace Go.Proofs.YtjfpkjpicalfmaaDoor
open Go.RowKit Go.Sort

def In64 (z : Int) : Prop := -9223372036854775808 ≤ z ∧ z ≤ 9223372036854775807
instance (z : Int) : Decidable (In64 z) := by unfold In64; infer_instance
/-- the exact result -/
def opI (i : Nat) (x y : Int) : Int := if i = 0 then x + y else if i = 1 then x - y else if i = 2 then x * y else if i = 3 then x.tdiv y else x.tmod y
def calcE (i : Nat) (x y : Int) : Int := if 3 ≤ i ∧ y = 0 then 32 else if In64 (opI i x y) then 0 else 31
def calcN (i : Nat) (x y : Int) : Int := if calcE i x y = 0 then opI i x y else 0

theorem within_any (x : Int) (b : Bool) (w : World) : Calls Tryd.prog 68 #[.int .i64 x, .bool b] w fun e w' => e = .returned (.tuple #[.int .i64 (if b then x else 0), .int .i64 (if b then 0 else 31)]) ∧ w' = w := by
  cases b
  · go_enter Tryd.func68, Tryd.ntmps68
    go_wp2
    go_ret2
    exact ⟨rfl, rfl⟩
  · go_enter Tryd.func68, Tryd.ntmps68
    go_wp2
    go_ret2
    exact ⟨rfl, rfl⟩
def tl (x y : Int) : Bool := x == -9223372036854775808 && y == -1
theorem turnsLeast_any (x y : Int) (w : World) : Calls Tryd.prog 71 #[.int .i64 x, .int .i64 y] w fun e w' => e = .returned (.bool (tl x y)) ∧ w' = w := by
  unfold tl
  cases hx : (x == -9223372036854775808)
  · go_enter Tryd.func71, Tryd.ntmps71
    go_wp2
    go_ret
    exact ⟨rfl, rfl⟩
  · go_enter Tryd.func71, Tryd.ntmps71
    go_wp2
    go_ret
    exact ⟨rfl, rfl⟩

theorem add_in {x y : Int} (h : In64 (x + y)) : calcE 0 x y = 0 ∧ calcN 0 x y = x + y := by
  have e : calcE 0 x y = 0 := by simp [calcE, opI, h]
  exact ⟨e, by unfold calcN; rw [if_pos e]; rfl⟩
theorem add_out {x y : Int} (h : ¬ In64 (x + y)) : calcE 0 x y = 31 ∧ calcN 0 x y = 0 := by
  have e : calcE 0 x y = 31 := by simp [calcE, opI, h]
  exact ⟨e, by unfold calcN; rw [if_neg (by rw [e]; decide)]⟩
theorem wrap_out {z : Int} (h : ¬ In64 z) (h2 : -20000000000000000000 ≤ z ∧ z ≤ 20000000000000000000) : (z > 9223372036854775807 ∧ wrap64 z = z - 18446744073709551616) ∨ (z < -9223372036854775808 ∧ wrap64 z = z + 18446744073709551616) := by
  unfold In64 at h
  have : z > 9223372036854775807 ∨ z < -9223372036854775808 := by omega
  rcases this with h3 | h3
  · exact .inl ⟨h3, by unfold wrap64; omega⟩
  · exact .inr ⟨h3, by unfold wrap64; omega⟩
theorem add_any (x y : Int) (hx : In64 x) (hy : In64 y) (w : World) : Calls Tryd.prog 67 #[.int .i64 x, .int .i64 y] w fun e w' => e = .returned (.tuple #[.int .i64 (calcN 0 x y), .int .i64 (calcE 0 x y)]) ∧ Below w.heap.size w w' := by
  by_cases h : In64 (x + y)
  · obtain ⟨e1, e2⟩ := add_in h
    rw [e1, e2]
    clear e1 e2
    have hb : (decide (x + y < x) == decide (y < 0)) = true := by
      have : decide (x + y < x) = decide (y < 0) := decide_eq_decide.2 (by omega)
      rw [this]; simp
    obtain ⟨h1, h2⟩ := h
    clear hx hy
    go_enter Tryd.func67, Tryd.ntmps67
    go_wp2_with (go_at_call 68; refine (within_any _ _ _).mono ?_; rintro e w' ⟨rfl, rfl⟩)
    go_ret2
    exact ⟨rfl, Below.refl _ _⟩
  · obtain ⟨e1, e2⟩ := add_out h
    rw [e1, e2]
    clear e1 e2
    obtain ⟨t, ht⟩ : ∃ t, wrap64 (x + y) = t := ⟨_, rfl⟩
    have hb : (decide (t < x) == decide (y < 0)) = false := by
      unfold In64 at hx hy
      rcases wrap_out h (by omega) with ⟨h3, h4⟩ | ⟨h3, h4⟩
      · rw [decide_eq_true (by omega : t < x), decide_eq_false (by omega : ¬ y < 0)]; rfl
      · rw [decide_eq_false (by omega : ¬ t < x), decide_eq_true (by omega : y < 0)]; rfl
    clear h hx hy
    go_enter Tryd.func67, Tryd.ntmps67
    go_wp2_with (go_at_call 68; refine (within_any _ _ _).mono ?_; rintro e w' ⟨rfl, rfl⟩)
    go_ret2
    exact ⟨rfl, Below.refl _ _⟩
theorem sub_in {x y : Int} (h : In64 (x - y)) : calcE 1 x y = 0 ∧ calcN 1 x y = x - y := by
  have e : calcE 1 x y = 0 := by simp [calcE, opI, h]
  exact ⟨e, by unfold calcN; rw [if_pos e]; rfl⟩
theorem sub_out {x y : Int} (h : ¬ In64 (x - y)) : calcE 1 x y = 31 ∧ calcN 1 x y = 0 := by
  have e : calcE 1 x y = 31 := by simp [calcE, opI, h]
  exact ⟨e, by unfold calcN; rw [if_neg (by rw [e]; decide)]⟩
theorem sub_any (x y : Int) (hx : In64 x) (hy : In64 y) (w : World) : Calls Tryd.prog 69 #[.int .i64 x, .int .i64 y] w fun e w' => e = .returned (.tuple #[.int .i64 (calcN 1 x y), .int .i64 (calcE 1 x y)]) ∧ Below w.heap.size w w' := by
  by_cases h : In64 (x - y)
  · obtain ⟨e1, e2⟩ := sub_in h
    rw [e1, e2]
    clear e1 e2
    have hb : (decide (x - y > x) == decide (y < 0)) = true := by
      have : decide (x - y > x) = decide (y < 0) := decide_eq_decide.2 (by omega)
      rw [this]; simp
    obtain ⟨h1, h2⟩ := h
    clear hx hy
    go_enter Tryd.func69, Tryd.ntmps69
    go_wp2_with (go_at_call 68; refine (within_any _ _ _).mono ?_; rintro e w' ⟨rfl, rfl⟩)
    go_ret2
    exact ⟨rfl, Below.refl _ _⟩
  · obtain ⟨e1, e2⟩ := sub_out h
    rw [e1, e2]
    clear e1 e2
    obtain ⟨t, ht⟩ : ∃ t, wrap64 (x - y) = t := ⟨_, rfl⟩
    have hb : (decide (t > x) == decide (y < 0)) = false := by
      unfold In64 at hx hy
      rcases wrap_out h (by omega) with ⟨h3, h4⟩ | ⟨h3, h4⟩
      · rw [decide_eq_false (by omega : ¬ t > x), decide_eq_true (by omega : y < 0)]; rfl
      · rw [decide_eq_true (by omega : t > x), decide_eq_false (by omega : ¬ y < 0)]; rfl
    clear h hx hy
    go_enter Tryd.func69, Tryd.ntmps69
    go_wp2_with (go_at_call 68; refine (within_any _ _ _).mono ?_; rintro e w' ⟨rfl, rfl⟩)
    go_ret2
    exact ⟨rfl, Below.refl _ _⟩

theorem wrap_mod (z : Int) : ∃ k : Int, wrap64 z = z - 18446744073709551616 * k ∧ In64 (wrap64 z) := by
  refine ⟨(z + 9223372036854775808) / 18446744073709551616, ?_, ?_⟩
  · unfold wrap64; omega
  · unfold In64 wrap64; omega
theorem wrap_in {z : Int} (h : In64 z) : wrap64 z = z := IntWalk.wrap64_in _ h
theorem tdiv_abs (x y : Int) : (x.tdiv y).natAbs ≤ x.natAbs := by rw [Int.natAbs_tdiv]; exact Nat.div_le_self _ _
/-- a quotient leaves 64 bits at one place alone -/
theorem quo_in {x y : Int} (hx : In64 x) (hy : y ≠ 0) : In64 (x.tdiv y) ↔ tl x y = false := by
  have h1 := tdiv_abs x y
  unfold In64 at *
  constructor
  · intro h
    unfold tl
    cases hq : (x == -9223372036854775808 && y == -1) with
    | false => rfl
    | true =>
      simp at hq
      obtain ⟨rfl, rfl⟩ := hq
      have : ((-9223372036854775808 : Int).tdiv (-1)) = 9223372036854775808 := by decide
      rw [this] at h
      omega
  · intro h
    refine ⟨by omega, ?_⟩
    rcases Int.lt_or_le 9223372036854775807 (x.tdiv y) with h2 | h2
    · exfalso
      have hx2 : x = -9223372036854775808 ∨ x.natAbs < 9223372036854775808 := by omega
      rcases hx2 with rfl | hx2
      · have h3 := Int.natAbs_tdiv (-9223372036854775808) y
        have h4 : (9223372036854775808 : Nat) ≤ (-9223372036854775808 : Int).natAbs / y.natAbs := by
          have h3' : ((-9223372036854775808 : Int).tdiv y).natAbs = (-9223372036854775808 : Int).natAbs / y.natAbs := h3
          rw [← h3']; omega
        have h5 : y.natAbs = 1 := by
          have hp : 0 < y.natAbs := by omega
          rw [Nat.le_div_iff_mul_le hp] at h4
          have h6 : (-9223372036854775808 : Int).natAbs = 9223372036854775808 := by decide
          rw [h6] at h4
          omega
        have h6 : y = 1 ∨ y = -1 := by omega
        rcases h6 with rfl | rfl
        · have : ((-9223372036854775808 : Int).tdiv 1) = -9223372036854775808 := by decide
          omega
        · have : tl (-9223372036854775808) (-1) = true := by decide
          rw [this] at h
          cases h
      · omega
    · exact h2
theorem rem_in {x y : Int} (hx : In64 x) : In64 (x.tmod y) := by
  have h1 : (x.tmod y).natAbs ≤ x.natAbs := by rw [Int.natAbs_tmod]; exact Nat.mod_le _ _
  have h2 := Int.tmod_nonneg y (a := x)
  unfold In64 at *
  by_cases hx0 : 0 ≤ x
  · have := h2 hx0; omega
  · have h3 := Int.tmod_nonneg y (a := -x) (by omega)
    rw [Int.neg_tmod] at h3
    omega
theorem mul_flag {x y : Int} (hx : In64 x) (hy : In64 y) (h0 : y ≠ 0) : (wrap64 ((wrap64 (x * y)).tdiv y) == x && !tl x y) = decide (In64 (x * y)) := by
  by_cases h : In64 (x * y)
  · rw [decide_eq_true h, wrap_in h, Int.mul_tdiv_cancel _ h0, wrap_in hx]
    have : tl x y = false := by
      unfold tl
      cases hq : (x == -9223372036854775808 && y == -1) with
      | false => rfl
      | true =>
        simp at hq
        obtain ⟨rfl, rfl⟩ := hq
        unfold In64 at h
        omega
    rw [this]
    simp
  · rw [decide_eq_false h]
    obtain ⟨k, hk, ht⟩ := wrap_mod (x * y)
    generalize wrap64 (x * y) = t at hk ht
    have hq := quo_in (y := y) ht h0
    cases htl : tl t y with
    | false =>
      have hin := hq.2 htl
      rw [wrap_in hin]
      have he : (t.tdiv y == x) = false := by
        apply beq_eq_false_iff_ne.2
        intro he
        have h1 := Int.mul_tdiv_add_tmod t y
        rw [he, Int.mul_comm y x] at h1
        have h2 : (t.tmod y).natAbs < y.natAbs := by rw [Int.natAbs_tmod]; exact Nat.mod_lt _ (by omega)
        generalize x * y = z at *
        unfold In64 at *
        omega
      rw [he]
      rfl
    | true =>
      unfold tl at htl
      simp at htl
      obtain ⟨rfl, rfl⟩ := htl
      have e1 : wrap64 ((-9223372036854775808 : Int).tdiv (-1)) = -9223372036854775808 := by
        rw [show ((-9223372036854775808 : Int).tdiv (-1)) = 9223372036854775808 by decide]
        unfold wrap64; omega
      rw [e1]
      by_cases hxx : x = -9223372036854775808
      · subst hxx; decide
      · have : ((-9223372036854775808 : Int) == x) = false := beq_eq_false_iff_ne.2 (fun e => hxx e.symm)
        rw [this]
        rfl

theorem mul_any (x y : Int) (hx : In64 x) (hy : In64 y) (w : World) : Calls Tryd.prog 70 #[.int .i64 x, .int .i64 y] w fun e w' => e = .returned (.tuple #[.int .i64 (calcN 2 x y), .int .i64 (calcE 2 x y)]) ∧ Below w.heap.size w w' := by
  by_cases h0 : y = 0
  · have e1 : calcE 2 x y = 0 := by subst h0; simp [calcE, opI, In64]
    have e2 : calcN 2 x y = 0 := by unfold calcN; rw [if_pos e1]; subst h0; simp [opI]
    have e3 : wrap64 (x * y) = 0 := by subst h0; rw [Int.mul_zero]; unfold wrap64; omega
    rw [e1, e2]
    have hy0 : (y == 0) = true := by simpa using h0
    clear e1 e2 hx hy h0
    go_enter Tryd.func70, Tryd.ntmps70
    go_wp2_with (go_at_call 68; refine (within_any _ _ _).mono ?_; rintro e w' ⟨rfl, rfl⟩)
    go_ret2
    exact ⟨rfl, Below.refl _ _⟩
  · have hf := mul_flag hx hy h0
    have hy0 : (y == 0) = false := by simpa using h0
    have hw : In64 (x * y) → wrap64 (x * y) = x * y := fun h => wrap_in h
    have hE : calcE 2 x y = if In64 (x * y) then 0 else 31 := by simp [calcE, opI]
    have hN : calcN 2 x y = if In64 (x * y) then wrap64 (x * y) else 0 := by
      unfold calcN
      rw [hE]
      by_cases h : In64 (x * y)
      · rw [if_pos h, if_pos rfl, if_pos h, hw h]; rfl
      · rw [if_neg h, if_neg (by decide), if_neg h]
    rw [hE, hN]
    clear hE hN hw hx hy
    obtain ⟨t, ht⟩ : ∃ t, wrap64 (x * y) = t := ⟨_, rfl⟩
    obtain ⟨q, hq⟩ : ∃ q, wrap64 (t.tdiv y) = q := ⟨_, rfl⟩
    rw [ht, hq] at hf
    rw [ht]
    by_cases h : In64 (x * y)
    · rw [if_pos h, if_pos h]
      rw [decide_eq_true h] at hf
      simp only [Bool.and_eq_true, Bool.not_eq_true'] at hf
      obtain ⟨f1, f2⟩ := hf
      clear h
      go_enter Tryd.func70, Tryd.ntmps70
      go_wp2_with (first | (go_at_call 68; refine (within_any _ _ _).mono ?_; rintro e w' ⟨rfl, rfl⟩) | (go_at_call 71; refine (turnsLeast_any _ _ _).mono ?_; rintro e w' ⟨rfl, rfl⟩))
      go_ret2
      exact ⟨rfl, Below.refl _ _⟩
    · rw [if_neg h, if_neg h]
      rw [decide_eq_false h] at hf
      clear h
      cases f1 : (q == x)
      · clear hf
        go_enter Tryd.func70, Tryd.ntmps70
        go_wp2_with (first | (go_at_call 68; refine (within_any _ _ _).mono ?_; rintro e w' ⟨rfl, rfl⟩) | (go_at_call 71; refine (turnsLeast_any _ _ _).mono ?_; rintro e w' ⟨rfl, rfl⟩))
        go_ret2
        exact ⟨rfl, Below.refl _ _⟩
      · rw [f1] at hf
        simp only [Bool.true_and, Bool.not_eq_false'] at hf
        go_enter Tryd.func70, Tryd.ntmps70
        go_wp2_with (first | (go_at_call 68; refine (within_any _ _ _).mono ?_; rintro e w' ⟨rfl, rfl⟩) | (go_at_call 71; refine (turnsLeast_any _ _ _).mono ?_; rintro e w' ⟨rfl, rfl⟩))
        go_ret2
        exact ⟨rfl, Below.refl _ _⟩
theorem div_any (x y : Int) (hx : In64 x) (w : World) : Calls Tryd.prog 72 #[.int .i64 x, .int .i64 y] w fun e w' => e = .returned (.tuple #[.int .i64 (calcN 3 x y), .int .i64 (calcE 3 x y)]) ∧ Below w.heap.size w w' := by
  by_cases h0 : y = 0
  · have e1 : calcE 3 x y = 32 := by subst h0; simp [calcE]
    have e2 : calcN 3 x y = 0 := by unfold calcN; rw [if_neg (by rw [e1]; decide)]
    rw [e1, e2]
    have hy0 : (y == 0) = true := by simpa using h0
    clear e1 e2 hx h0
    go_enter Tryd.func72, Tryd.ntmps72
    go_wp2
    go_ret2
    exact ⟨rfl, Below.refl _ _⟩
  · have hq := quo_in hx h0
    have hE : calcE 3 x y = if In64 (x.tdiv y) then 0 else 31 := by simp [calcE, opI, h0]
    have hN : calcN 3 x y = if In64 (x.tdiv y) then IntKind.i64.wrap (x.tdiv y) else 0 := by
      unfold calcN
      rw [hE]
      by_cases h : In64 (x.tdiv y)
      · rw [if_pos h, if_pos rfl, if_pos h, IntWalk.i64_in _ h]; rfl
      · rw [if_neg h, if_neg (by decide), if_neg h]
    rw [hE, hN]
    have hy0 : (y == 0) = false := by simpa using h0
    have hy1 : ¬ y = 0 := h0
    obtain ⟨t, ht⟩ : ∃ t, IntKind.i64.wrap (x.tdiv y) = t := ⟨_, rfl⟩
    rw [ht]
    by_cases h : In64 (x.tdiv y)
    · rw [if_pos h, if_pos h]
      have htl := hq.1 h
      clear h hq hE hN hx h0
      go_enter Tryd.func72, Tryd.ntmps72
      go_wp2_with fail
      go_quiet (first | (go_at_call 71; exact Calls.quiet_of_same (turnsLeast_any _ _ _)) | (go_at_call 68; exact Calls.quiet_of_same (within_any _ _ _)))
      go_wp2
      go_ret2
      exact ⟨by first | rfl | (rw [htl]; rfl), ⟨rfl, rfl, rfl, Nat.le_refl _, fun _ _ => rfl⟩⟩
    · rw [if_neg h, if_neg h]
      have htl : tl x y = true := by
        cases hh : tl x y
        · exact absurd (hq.2 hh) h
        · rfl
      clear h hq hE hN hx h0
      go_enter Tryd.func72, Tryd.ntmps72
      go_wp2_with fail
      go_quiet (first | (go_at_call 71; exact Calls.quiet_of_same (turnsLeast_any _ _ _)) | (go_at_call 68; exact Calls.quiet_of_same (within_any _ _ _)))
      go_wp2
      go_ret2
      exact ⟨by first | rfl | (rw [htl]; rfl), ⟨rfl, rfl, rfl, Nat.le_refl _, fun _ _ => rfl⟩⟩
theorem mod_any (x y : Int) (hx : In64 x) (w : World) : Calls Tryd.prog 73 #[.int .i64 x, .int .i64 y] w fun e w' => e = .returned (.tuple #[.int .i64 (calcN 4 x y), .int .i64 (calcE 4 x y)]) ∧ Below w.heap.size w w' := by
  by_cases h0 : y = 0
  · have e1 : calcE 4 x y = 32 := by subst h0; simp [calcE]
    have e2 : calcN 4 x y = 0 := by unfold calcN; rw [if_neg (by rw [e1]; decide)]
    rw [e1, e2]
    have hy0 : (y == 0) = true := by simpa using h0
    clear e1 e2 hx h0
    go_enter Tryd.func73, Tryd.ntmps73
    go_wp2
    go_ret2
    exact ⟨rfl, Below.refl _ _⟩
  · have hE : calcE 4 x y = 0 := by simp [calcE, opI, h0, rem_in hx]
    have hN : calcN 4 x y = x.tmod y := by unfold calcN; rw [if_pos hE]; rfl
    rw [hE, hN]
    have hy0 : (y == 0) = false := by simpa using h0
    have hy1 : ¬ y = 0 := h0
    clear hE hN hx h0
    go_enter Tryd.func73, Tryd.ntmps73
    go_wp2
    go_ret2
    exact ⟨rfl, Below.refl _ _⟩
end Go.Proofs.YtjfpkjpicalfmaaDoor
