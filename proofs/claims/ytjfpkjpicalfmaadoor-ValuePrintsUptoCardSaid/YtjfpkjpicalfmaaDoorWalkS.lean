/-
  THE WALKS OF the document's Size, signed, summed.
-/
import Derived.Test.YtjfpkjpicalfmaaDoorWalkN
namespace Go.Proofs.YtjfpkjpicalfmaaDoor
open Go.RowKit Go.Sort

theorem neg_size {x : Int} (h1 : -9223372036854775808 ≤ x) (hn : x < 0) : IntKind.u64.wrap (-IntKind.u64.wrap x) = (x.natAbs : Int) := by
  simp [IntKind.wrap, IntKind.signed, IntKind.bits]
  omega
theorem size_any (x : Int) (hx : In64 x) (w : World) : Calls Tryd.prog 90 #[.int .i64 x] w fun e w' => e = .returned (.int .u64 (x.natAbs : Int)) ∧ Below w.heap.size w w' := by
  obtain ⟨h1, h2⟩ := hx
  by_cases hn : x < 0
  · have e := neg_size h1 hn
    generalize (x.natAbs : Int) = m at e
    go_enter Tryd.func90, Tryd.ntmps90
    go_wp2
    go_ret
    exact ⟨by first | rfl | (rw [← e]; rfl), Below.refl _ _⟩
  · have e : (x.natAbs : Int) = x := by omega
    rw [e]
    clear e
    go_enter Tryd.func90, Tryd.ntmps90
    go_wp2
    go_ret
    exact ⟨rfl, Below.refl _ _⟩
/-- a number of so great a size: it, and whether there is one -/
def sgnN (z : Nat) (b : Bool) : Int := if b then wrap64 (IntKind.u64.wrap (-(z : Int))) else wrap64 z
def sgnQ (z : Nat) (b : Bool) : Bool := if b then decide ((z : Int) ≤ 9223372036854775808) else decide ((z : Int) < 9223372036854775808)
theorem signed_any (z : Nat) (b : Bool) (w : World) : Calls Tryd.prog 93 #[.int .u64 (z : Int), .bool b] w fun e w' => e = .returned (.tuple #[.int .i64 (sgnN z b), .bool (sgnQ z b)]) ∧ Below w.heap.size w w' := by
  cases b
  · have e1 : sgnN z false = wrap64 z := if_neg (by decide)
    have e2 : sgnQ z false = decide ((z : Int) < 9223372036854775808) := if_neg (by decide)
    rw [e1, e2]
    clear e1 e2
    go_enter Tryd.func93, Tryd.ntmps93
    go_wp2
    go_ret2
    exact ⟨rfl, Below.refl _ _⟩
  · have e1 : sgnN z true = wrap64 (IntKind.u64.wrap (-(z : Int))) := if_pos rfl
    have e2 : sgnQ z true = decide ((z : Int) ≤ 9223372036854775808) := if_pos rfl
    rw [e1, e2]
    clear e1 e2
    go_enter Tryd.func93, Tryd.ntmps93
    go_wp2
    go_ret2
    exact ⟨rfl, Below.refl _ _⟩
theorem sgn_of {r : Int} {m : Nat} {s : Bool} (hm : m < 18446744073709551616) (hr : r = if s then -(m : Int) else m) :
    sgnQ m (s && decide ((m : Int) > 0)) = decide (In64 r) ∧ (In64 r → sgnN m (s && decide ((m : Int) > 0)) = r) := by
  unfold sgnQ sgnN In64
  cases s
  · simp only [Bool.false_and, if_false, Bool.false_eq_true] at hr ⊢
    subst hr
    exact ⟨decide_eq_decide.2 (by omega), fun h => by unfold wrap64; omega⟩
  · simp only [if_true] at hr
    subst hr
    by_cases h0 : (m : Int) > 0
    · rw [decide_eq_true h0]
      simp only [Bool.and_self, if_true]
      refine ⟨decide_eq_decide.2 (by omega), fun h => ?_⟩
      simp [IntKind.wrap, IntKind.signed, IntKind.bits]
      unfold wrap64
      omega
    · rw [decide_eq_false h0]
      simp only [Bool.and_false, if_false, Bool.false_eq_true]
      refine ⟨decide_eq_decide.2 (by omega), fun h => by unfold wrap64; omega⟩

theorem summed_any (x y : Int) (hx : In64 x) (hy : In64 y) (w : World) : Calls Tryd.prog 91 #[.int .i64 x, .int .i64 y] w fun e w' => e = .returned (.tuple #[.int .i64 (if In64 (x + y) then x + y else 0), .bool (decide (In64 (x + y)))]) ∧ Below w.heap.size w w' := by
  obtain ⟨x1, x2⟩ := hx
  obtain ⟨y1, y2⟩ := hy
  by_cases h : In64 (x + y)
  · rw [if_pos h, decide_eq_true h]
    obtain ⟨h1, h2⟩ := h
    rcases Int.lt_trichotomy y 0 with hy | hy | hy
    · have hg : decide (y > 0) = false := decide_eq_false (by omega)
      have hl : decide (y < 0) = true := decide_eq_true hy
      have hm : -9223372036854775808 ≤ -9223372036854775808 - y := by omega
      have hm2 : -9223372036854775808 - y ≤ 9223372036854775807 := by omega
      have hc : decide (x < -9223372036854775808 - y) = false := decide_eq_false (by omega)
      clear hy
      go_enter Tryd.func91, Tryd.ntmps91
      go_wp2
      go_ret2
      exact ⟨rfl, Below.refl _ _⟩
    · subst hy
      simp only [Int.add_zero] at h1 h2 ⊢
      go_enter Tryd.func91, Tryd.ntmps91
      go_wp2
      go_ret2
      exact ⟨rfl, Below.refl _ _⟩
    · have hg : decide (y > 0) = true := decide_eq_true hy
      have hl : decide (y < 0) = false := decide_eq_false (by omega)
      have hm : -9223372036854775808 ≤ 9223372036854775807 - y := by omega
      have hm2 : 9223372036854775807 - y ≤ 9223372036854775807 := by omega
      have hc : decide (x > 9223372036854775807 - y) = false := decide_eq_false (by omega)
      clear hy
      go_enter Tryd.func91, Tryd.ntmps91
      go_wp2
      go_ret2
      exact ⟨rfl, Below.refl _ _⟩
  · rw [if_neg h, decide_eq_false h]
    have h3 : x + y > 9223372036854775807 ∨ x + y < -9223372036854775808 := by unfold In64 at h; omega
    clear h
    rcases h3 with h3 | h3
    · have hg : decide (y > 0) = true := decide_eq_true (by omega)
      have hm : -9223372036854775808 ≤ 9223372036854775807 - y := by omega
      have hm2 : 9223372036854775807 - y ≤ 9223372036854775807 := by omega
      have hc : decide (x > 9223372036854775807 - y) = true := decide_eq_true (by omega)
      go_enter Tryd.func91, Tryd.ntmps91
      go_wp2
      go_ret2
      exact ⟨rfl, Below.refl _ _⟩
    · have hg : decide (y > 0) = false := decide_eq_false (by omega)
      have hl : decide (y < 0) = true := decide_eq_true (by omega)
      have hm : -9223372036854775808 ≤ -9223372036854775808 - y := by omega
      have hm2 : -9223372036854775808 - y ≤ 9223372036854775807 := by omega
      have hc : decide (x < -9223372036854775808 - y) = true := decide_eq_true (by omega)
      go_enter Tryd.func91, Tryd.ntmps91
      go_wp2
      go_ret2
      exact ⟨rfl, Below.refl _ _⟩
/-- sizes and signs -/
theorem mul_sgn (x y : Int) : x * y = if (decide (x < 0) != decide (y < 0)) then -((x.natAbs * y.natAbs : Nat) : Int) else ((x.natAbs * y.natAbs : Nat) : Int) := by
  have hx := Int.natAbs_eq x
  have hy := Int.natAbs_eq y
  generalize x.natAbs = p at *
  generalize y.natAbs = q at *
  have hz : ∀ a : Int, a * ((0 : Nat) : Int) = 0 := fun a => Int.mul_zero a
  rcases hx with rfl | rfl <;> rcases hy with rfl | rfl <;> by_cases hp : p = 0 <;> by_cases hq : q = 0 <;> simp [hp, hq] <;> first | omega | (rw [if_neg (by omega)]; simp [Int.mul_neg, Int.neg_mul]; done) | (rw [if_pos (by omega)]; simp [Int.mul_neg, Int.neg_mul]; done) | skip
theorem div_sgn (x y : Int) : x.tdiv y = if (decide (x < 0) != decide (y < 0)) then -((x.natAbs / y.natAbs : Nat) : Int) else ((x.natAbs / y.natAbs : Nat) : Int) := by
  have hx := Int.natAbs_eq x
  have hy := Int.natAbs_eq y
  generalize x.natAbs = p at *
  generalize y.natAbs = q at *
  rcases hx with rfl | rfl <;> rcases hy with rfl | rfl <;> by_cases hp : p = 0 <;> by_cases hq : q = 0 <;> simp [hp, hq, Int.neg_tdiv, Int.tdiv_neg] <;> first | omega | skip
theorem mod_sgn (x y : Int) : x.tmod y = if decide (x < 0) then -((x.natAbs % y.natAbs : Nat) : Int) else ((x.natAbs % y.natAbs : Nat) : Int) := by
  have hx := Int.natAbs_eq x
  have hy := Int.natAbs_eq y
  generalize x.natAbs = p at *
  generalize y.natAbs = q at *
  rcases hx with rfl | rfl <;> rcases hy with rfl | rfl <;> by_cases hp : p = 0 <;> by_cases hq : q = 0 <;> simp [hp, hq, Int.neg_tmod, Int.tmod_neg] <;> first | omega | (rw [if_neg (by omega)]; exact Int.tmod_eq_emod_of_nonneg (by omega)) | (rw [if_pos (by omega), Int.tmod_eq_emod_of_nonneg (by omega)]) | skip
end Go.Proofs.YtjfpkjpicalfmaaDoor
