/-
  WHAT THE LAWS' WALKS WANT OF Encode's ANSWERS.
-/
import Derived.Test.YtjhlfgomoookjaaWalkH
namespace Go.Proofs.Ytjhlfgomoookjaa
open Go.RowKit Go.Sort

theorem enc_zero {vs : List V} (h : encE vs = 0) : vs.all V.may = true ∧ encS vs = bs (key vs) ∧ vs.length ≤ 16 ∧ (key vs).length ≤ 140 := by
  have hs : encS vs = bs (key vs) := if_pos h
  unfold encE at h
  by_cases h1 : 16 < vs.length
  · rw [if_pos h1] at h; omega
  · rw [if_neg h1] at h
    by_cases h2 : vs.all V.may = false
    · rw [if_pos h2] at h; omega
    · rw [if_neg h2] at h
      by_cases h3 : 140 < (key vs).length
      · rw [if_pos h3] at h; omega
      · exact ⟨by simpa using h2, hs, by omega, by omega⟩
theorem ordR_bd (a b : List V) : ordR a b = -1 ∨ ordR a b = 0 ∨ ordR a b = 1 := by
  induction a generalizing b with
  | nil => cases b <;> simp [ordR]
  | cons u a ih =>
    cases b with
    | nil => simp [ordR]
    | cons v b =>
      simp only [ordR]
      split
      · exact ih b
      · exact ord_bd u v
theorem ok_n {vs : List V} (h : ∀ v ∈ vs, VOk v) : ∀ v ∈ vs, N64 v := fun v hv => (h v hv).n
theorem cmp_keys {l m : List Nat} (hl : ∀ x ∈ l, x < 256) (hm : ∀ x ∈ m, x < 256) : cmpS (bs l) (bs m) = lx l m := by rw [cmpS_sb, sb_bs l hl, sb_bs m hm]
theorem order_facts {xs ys : List V} (hx : encE xs = 0) (hy : encE ys = 0) (nx : ∀ v ∈ xs, VOk v) (ny : ∀ v ∈ ys, VOk v) :
    Op.bytesLess (encS xs).toList (encS ys).toList = decide (ordR xs ys < 0) ∧ seq (encS xs) (encS ys) = (ordR xs ys == 0) := by
  obtain ⟨mx, sx, _, _⟩ := enc_zero hx
  obtain ⟨my, sy, _, _⟩ := enc_zero hy
  have hc : cmpS (encS xs) (encS ys) = ordR xs ys := by
    rw [sx, sy, cmp_keys (key_lt xs mx) (key_lt ys my)]
    exact key_order xs ys mx my (ok_n nx) (ok_n ny)
  constructor
  · rw [less_cmp, hc]
    rcases ordR_bd xs ys with h | h | h <;> rw [h] <;> decide
  · rw [Bool.eq_iff_iff, seq_eq, ← cmpS_zero, hc]
    simp
theorem code_zero {w w' : World} {vs : List V} {e : Ending} (h : Enc w vs e w') : e = .returned (.tuple #[.string (encS vs), .int .i64 (encE vs)]) ∧ Below w.heap.size w w' := h
end Go.Proofs.Ytjhlfgomoookjaa
