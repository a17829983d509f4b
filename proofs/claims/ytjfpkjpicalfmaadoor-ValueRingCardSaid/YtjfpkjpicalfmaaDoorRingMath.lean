/-
  THE MATHEMATICS OF ValueRing.
-/
import Derived.Test.YtjfpkjpicalfmaaDoorKit
import Derived.Test.YtjfpkjpicalfmaaDoorWalkO
namespace Go.Proofs.YtjfpkjpicalfmaaDoor
open Go.RowKit Go.Sort

def N (n : Int) : V := ⟨1, n, ⟨#[]⟩⟩
theorem N_may (n : Int) : (N n).may = true := by simp [N, V.may, may, seq_refl]
theorem N_null (n : Int) : (N n).isNull = false := by simp [N, V.isNull, veq]
theorem N_fits (n : Int) : fits 1 (N n) = true := by simp [N, fits]
theorem N_want (x y : Int) : want 1 [N x, N y] = 0 := by simp [want, N_may, N_fits]
def ans (i : Nat) (x y : Int) : V := if calcE i x y = 0 then N (opI i x y) else ⟨0, 0, ⟨#[]⟩⟩
theorem reckE_num (i : Nat) (x y : Int) : reckE i (N x) (N y) = calcE i x y := by
  unfold reckE
  rw [if_pos (N_want x y), N_null, N_null]
  rfl
theorem reckV_num (i : Nat) (x y : Int) : reckV i (N x) (N y) = ans i x y := by
  unfold reckV ans
  rw [if_pos (N_want x y), N_null, N_null]
  show (if calcE i x y = 0 then _ else _) = _
  by_cases h : calcE i x y = 0
  · rw [if_pos h, if_pos h]
    show (⟨1, calcN i x y, _⟩ : V) = N _
    unfold calcN
    rw [if_pos h]
    rfl
  · rw [if_neg h, if_neg h]
theorem op_zero {i : Nat} {x y : Int} (h : calcE i x y = 0) : In64 (opI i x y) := by
  unfold calcE at h
  split at h
  · omega
  · split at h
    · assumption
    · omega
theorem ans_n (i : Nat) (x y : Int) : In64 (ans i x y).n := by
  unfold ans
  split
  · rename_i h; exact op_zero h
  · show In64 0; unfold In64; omega
theorem ans_s (i : Nat) (x y : Int) : (ans i x y).s.size ≤ 9223372036854775807 := by
  unfold ans
  split <;> exact Nat.zero_le _
theorem swap0 (x y : Int) : calcE 0 y x = calcE 0 x y ∧ ans 0 y x = ans 0 x y := by
  have h : opI 0 y x = opI 0 x y := by simp [opI, Int.add_comm]
  have he : calcE 0 y x = calcE 0 x y := by simp [calcE, h]
  exact ⟨he, by unfold ans; rw [he, h]⟩
theorem swap2 (x y : Int) : calcE 2 y x = calcE 2 x y ∧ ans 2 y x = ans 2 x y := by
  have h : opI 2 y x = opI 2 x y := by simp [opI, Int.mul_comm]
  have he : calcE 2 y x = calcE 2 x y := by simp [calcE, h]
  exact ⟨he, by unfold ans; rw [he, h]⟩
theorem calc_in {i : Nat} {x y : Int} (hi : i < 3 ∨ y ≠ 0) (h : In64 (opI i x y)) : calcE i x y = 0 ∧ ans i x y = N (opI i x y) := by
  have he : calcE i x y = 0 := by
    unfold calcE
    rw [if_neg (by omega), if_pos h]
  exact ⟨he, if_pos he⟩
theorem back_sub {x y : Int} (hx : In64 x) (h : calcE 0 x y = 0) : reckV 1 (ans 0 x y) (N y) = N x ∧ reckE 1 (ans 0 x y) (N y) = 0 := by
  rw [show ans 0 x y = N (opI 0 x y) from if_pos h, reckV_num, reckE_num]
  have e : opI 1 (opI 0 x y) y = x := by simp [opI]
  have := calc_in (i := 1) (x := opI 0 x y) (y := y) (Or.inl (by omega)) (by rw [e]; exact hx)
  rw [e] at this
  exact ⟨this.2, this.1⟩
theorem div_cases {x y : Int} (hx : In64 x) : (y = 0 ∧ calcE 3 x y = 32 ∧ calcE 4 x y = 32) ∨ (y ≠ 0 ∧ calcE 3 x y = 31 ∧ calcE 4 x y = 0) ∨ (y ≠ 0 ∧ calcE 3 x y = 0 ∧ calcE 4 x y = 0) := by
  by_cases h : y = 0
  · left
    simp [calcE, h]
  · right
    have h4 := (calc_in (i := 4) (x := x) (Or.inr h) (rem_in hx)).1
    by_cases h3 : In64 (opI 3 x y)
    · exact .inr ⟨h, (calc_in (Or.inr h) h3).1, h4⟩
    · exact .inl ⟨h, by unfold calcE; rw [if_neg (by omega), if_neg h3], h4⟩
theorem mul_back {x y : Int} (hx : In64 x) (hy : y ≠ 0) (h3 : calcE 3 x y = 0) :
    reckE 2 (ans 3 x y) (N y) = 0 ∧ reckV 0 (reckV 2 (ans 3 x y) (N y)) (ans 4 x y) = N x ∧ reckE 0 (reckV 2 (ans 3 x y) (N y)) (ans 4 x y) = 0 := by
  have h4 := calc_in (i := 4) (x := x) (Or.inr hy) (rem_in hx)
  rw [show ans 3 x y = N (opI 3 x y) from if_pos h3, h4.2, reckV_num, reckE_num]
  have e3 : opI 3 x y = x.tdiv y := rfl
  have e4 : opI 4 x y = x.tmod y := rfl
  have hd := Int.mul_tdiv_add_tmod x y
  have e2 : opI 2 (opI 3 x y) y = x - x.tmod y := by
    show opI 3 x y * y = _
    rw [e3, Int.mul_comm]
    omega
  have hin : In64 (x - x.tmod y) := by
    rcases Int.le_total 0 x with h0 | h0
    · have p1 := Int.tmod_nonneg y h0
      have p2 : (x.tmod y).natAbs ≤ x.natAbs := by rw [Int.natAbs_tmod]; exact Nat.mod_le _ _
      unfold In64 at *
      omega
    · have p1 : 0 ≤ (-x).tmod y := Int.tmod_nonneg y (by omega)
      have p2 : (x.tmod y).natAbs ≤ x.natAbs := by rw [Int.natAbs_tmod]; exact Nat.mod_le _ _
      rw [Int.neg_tmod] at p1
      unfold In64 at *
      omega
  have m := calc_in (i := 2) (x := opI 3 x y) (y := y) (Or.inl (by omega)) (by rw [e2]; exact hin)
  rw [m.1, m.2, e2, reckV_num, reckE_num]
  have e0 : opI 0 (x - x.tmod y) (opI 4 x y) = x := by
    show x - x.tmod y + opI 4 x y = x
    rw [e4]; omega
  have a := calc_in (i := 0) (x := x - x.tmod y) (y := opI 4 x y) (Or.inl (by omega)) (by rw [e0]; exact hx)
  rw [e0] at a
  exact ⟨rfl, a.2, a.1⟩
theorem reck_s (i : Nat) (a b : V) : (reckV i a b).s.size ≤ 9223372036854775807 := by
  unfold reckV
  repeat' split
  all_goals exact Nat.zero_le _
theorem reck_n (i : Nat) (a b : V) : In64 (reckV i a b).n := by
  unfold reckV
  repeat' split
  case isTrue.isFalse.isTrue =>
    rename_i h
    show In64 (calcN i a.n b.n)
    unfold calcN
    rw [if_pos h]
    exact op_zero h
  all_goals (show In64 0; unfold In64; omega)
theorem distr {x y z : Int} (h1 : calcE 0 x y = 0) (h2 : calcE 2 x z = 0) (h3 : calcE 2 y z = 0) (h4 : reckE 2 (ans 0 x y) (N z) = 0) :
    reckE 0 (ans 2 x z) (ans 2 y z) = 0 ∧ reckV 0 (ans 2 x z) (ans 2 y z) = reckV 2 (ans 0 x y) (N z) := by
  rw [show ans 0 x y = N (opI 0 x y) from if_pos h1, reckE_num] at h4
  rw [show ans 0 x y = N (opI 0 x y) from if_pos h1, show ans 2 x z = N (opI 2 x z) from if_pos h2, show ans 2 y z = N (opI 2 y z) from if_pos h3, reckV_num, reckV_num, reckE_num]
  have e : opI 0 (opI 2 x z) (opI 2 y z) = opI 2 (opI 0 x y) z := by simp [opI, Int.add_mul]
  have hi := op_zero h4
  have m := calc_in (i := 0) (x := opI 2 x z) (y := opI 2 y z) (Or.inl (by omega)) (by rw [e]; exact hi)
  rw [m.1, m.2, e]
  exact ⟨rfl, (if_pos h4).symm⟩
theorem p3_from {u w w' : World} {a b c : V} (hu : Below u.heap.size u w) (h : Below (P3 w a b c).heap.size (P3 w a b c) w') :
    (w'.cell? ⟨w.heap.size, 0, none⟩ = some (.int .i64 a.k) ∧ w'.cell? ⟨w.heap.size, 1, none⟩ = some (.int .i64 a.n) ∧ w'.cell? ⟨w.heap.size, 2, none⟩ = some (.string a.s)) ∧
    (w'.cell? ⟨w.heap.size + 1, 0, none⟩ = some (.int .i64 b.k) ∧ w'.cell? ⟨w.heap.size + 1, 1, none⟩ = some (.int .i64 b.n) ∧ w'.cell? ⟨w.heap.size + 1, 2, none⟩ = some (.string b.s)) ∧
    (w'.cell? ⟨w.heap.size + 2, 0, none⟩ = some (.int .i64 c.k) ∧ w'.cell? ⟨w.heap.size + 2, 1, none⟩ = some (.int .i64 c.n) ∧ w'.cell? ⟨w.heap.size + 2, 2, none⟩ = some (.string c.s)) ∧
    Below u.heap.size u w' := by
  obtain ⟨h1, h2, h3, h4⟩ := p3_boxes h
  exact ⟨h1, h2, h3, below_trans hu h4⟩
end Go.Proofs.YtjfpkjpicalfmaaDoor
