/-
Math
-/
namespace Go.Proofs.YtdhgbkibbileiaaGreat.Cd
def fixB : Nat → Nat → List Nat
 | 0, _ => []
 | k + 1, x => x % 256 :: fixB k (x / 256)
def unfix : List Nat → Nat
 | [] => 0
 | b :: r => b + 256 * unfix r
theorem fixB_len (k x : Nat) : (fixB k x).length = k := by
 induction k generalizing x with
 | zero => rfl
 | succ k ih => simp [fixB, ih]
theorem unfix_fixB (k x : Nat) : unfix (fixB k x) = x % 256 ^ k := by
 induction k generalizing x with
 | zero => simp [fixB, unfix, Nat.mod_one]
 | succ k ih =>
   simp only [fixB, unfix, ih]
   rw [Nat.pow_succ, Nat.mul_comm (256 ^ k) 256, Nat.mod_mul]
theorem fixB_snoc (k x : Nat) : fixB (k + 1) x = fixB k x ++ [x / 256 ^ k % 256] := by
 induction k generalizing x with
 | zero => simp [fixB]
 | succ k ih =>
   rw [fixB, ih, fixB, List.cons_append, Nat.div_div_eq_div_mul, ← Nat.pow_succ']
theorem unfix_snoc (l : List Nat) (x : Nat) : unfix (l ++ [x]) = unfix l + x * 256 ^ l.length := by
 induction l with
 | nil => simp [unfix]
 | cons b r ih =>
   simp only [List.cons_append, unfix, ih, List.length_cons, Nat.pow_succ]
   rw [Nat.mul_add, ← Nat.add_assoc, Nat.mul_comm (256 ^ r.length) 256, Nat.mul_left_comm 256 x]
theorem unfix_lt (l : List Nat) (h : ∀ x ∈ l, x < 256) : unfix l < 256 ^ l.length := by
 induction l with
 | nil => simp [unfix]
 | cons b r ih =>
   have hb := h b (by simp)
   have hr := ih fun x hx => h x (by simp [hx])
   simp only [unfix, List.length_cons, Nat.pow_succ]
   omega
def vi (x : Nat) : List Nat := if x < 128 then [x] else (128 + x % 128) :: vi (x / 128)
 termination_by x
 decreasing_by omega
theorem vi_small {x : Nat} (h : x < 128) : vi x = [x] := by rw [vi, if_pos h]
theorem vi_big {x : Nat} (h : 128 ≤ x) : vi x = (128 + x % 128) :: vi (x / 128) := by rw [vi, if_neg (by omega)]
theorem vi_pos (x : Nat) : 0 < (vi x).length := by
 by_cases h : x < 128
 ·rw [vi_small h]; simp
 ·rw [vi_big (by omega)]; simp
theorem vi_len (k x : Nat) (h : x < 128 ^ (k + 1)) : (vi x).length ≤ k + 1 := by
 induction k generalizing x with
 | zero => rw [vi_small (by simpa using h)]; simp
 | succ k ih =>
   by_cases hx : x < 128
   ·rw [vi_small hx]; simp
   ·rw [vi_big (by omega)]
    have : x / 128 < 128 ^ (k + 1) := by rw [Nat.div_lt_iff_lt_mul (by omega)]; rw [Nat.pow_succ] at h; exact h
    have := ih _ this
    simp
    omega
theorem vi_len10 (x : Nat) (h : x < 18446744073709551616) : (vi x).length ≤ 10 := vi_len 9 x (Nat.lt_of_lt_of_le h (by decide))
def lead : List Nat → Nat
 | [] => 0
 | b :: r => if 128 ≤ b then lead r + 1 else 0
def val : List Nat → Nat
 | [] => 0
 | b :: r => b % 128 + 128 * val r
theorem lead_le (l : List Nat) : lead l ≤ l.length := by
 induction l with
 | nil => simp [lead]
 | cons b r ih => simp only [lead]; split <;> simp <;> omega
theorem lead_at (l : List Nat) : ∀ i, i < lead l → 128 ≤ l.getD i 0 := by
 induction l with
 | nil => intro i hi; simp [lead] at hi
 | cons b r ih =>
   intro i hi
   simp only [lead] at hi
   split at hi
   ·match i with
    | 0 => simpa
    | i + 1 => simpa using ih i (by omega)
   ·omega
theorem lead_end (l : List Nat) (h : lead l < l.length) : l.getD (lead l) 0 < 128 := by
 induction l with
 | nil => simp at h
 | cons b r ih =>
   by_cases hb : 128 ≤ b
   ·simp only [lead, if_pos hb, List.length_cons] at h ⊢
    simpa using ih (by omega)
   ·simp only [lead, if_neg hb]
    simp; omega
theorem lead_ge (l : List Nat) (i : Nat) (hi : i ≤ l.length) (h : ∀ j, j < i → 128 ≤ l.getD j 0) : i ≤ lead l := by
 rcases Nat.lt_or_ge (lead l) i with h1 | h1
 ·have := lead_end l (by omega)
  have := h (lead l) h1
  omega
 ·exact h1
theorem lead_eq (l : List Nat) (i : Nat) (hi : i < l.length) (h : ∀ j, j < i → 128 ≤ l.getD j 0) (hb : l.getD i 0 < 128) : lead l = i := by
 have h1 := lead_ge l i (by omega) h
 rcases Nat.lt_or_ge i (lead l) with h2 | h2
 ·have := lead_at l i h2
  omega
 ·omega
theorem val_snoc (l : List Nat) (x : Nat) : val (l ++ [x]) = val l + x % 128 * 128 ^ l.length := by
 induction l with
 | nil => simp [val]
 | cons b r ih =>
   simp only [List.cons_append, val, ih, List.length_cons, Nat.pow_succ]
   rw [Nat.mul_add, ← Nat.add_assoc, Nat.mul_comm (128 ^ r.length) 128, Nat.mul_left_comm 128 (x % 128)]
theorem val_lt (l : List Nat) : val l < 128 ^ l.length := by
 induction l with
 | nil => simp [val]
 | cons b r ih =>
   simp only [val, List.length_cons, Nat.pow_succ]
   omega
def front (l : List Nat) : Option (Nat × Nat) :=
 if l.length ≤ lead l ∨ 9 < lead l ∨ (lead l = 9 ∧ 1 < l.getD 9 0) ∨ (0 < lead l ∧ l.getD (lead l) 0 = 0) then none
 else some (val (l.take (lead l + 1)), lead l + 1)
theorem front_some {l : List Nat} (h1 : lead l < l.length) (h2 : lead l ≤ 9) (h3 : lead l = 9 → l.getD 9 0 ≤ 1) (h4 : 0 < lead l → l.getD (lead l) 0 ≠ 0) :
  front l = some (val (l.take (lead l + 1)), lead l + 1) := by
 unfold front
 rw [if_neg]
 rintro (h | h | ⟨h, h'⟩ | ⟨h, h'⟩)
 ·omega
 ·omega
 ·have := h3 h; omega
 ·exact h4 h h'
theorem front_none {l : List Nat} (h : l.length ≤ lead l ∨ 9 < lead l ∨ (lead l = 9 ∧ 1 < l.getD 9 0) ∨ (0 < lead l ∧ l.getD (lead l) 0 = 0)) : front l = none := by
 unfold front
 rw [if_pos h]
theorem front_inv {l : List Nat} {x n : Nat} (h : front l = some (x, n)) :
  lead l < l.length ∧ lead l ≤ 9 ∧ (lead l = 9 → l.getD 9 0 ≤ 1) ∧ (0 < lead l → l.getD (lead l) 0 ≠ 0) ∧ x = val (l.take (lead l + 1)) ∧ n = lead l + 1 := by
 unfold front at h
 split at h
 ·cases h
 ·rename_i hc
  simp only [Option.some.injEq, Prod.mk.injEq] at h
  refine ⟨?_, ?_, ?_, ?_, h.1.symm, h.2.symm⟩
  ·rcases Nat.lt_or_ge (lead l) l.length with h1 | h1
   ·exact h1
   ·exact absurd (Or.inl h1) hc
  ·rcases Nat.lt_or_ge 9 (lead l) with h1 | h1
   ·exact absurd (Or.inr (Or.inl h1)) hc
   ·exact h1
  ·intro h9
   rcases Nat.lt_or_ge 1 (l.getD 9 0) with h1 | h1
   ·exact absurd (Or.inr (Or.inr (Or.inl ⟨h9, h1⟩))) hc
   ·exact h1
  ·intro h0 h1
   exact hc (Or.inr (Or.inr (Or.inr ⟨h0, h1⟩)))
theorem front_pos {l : List Nat} {x n : Nat} (h : front l = some (x, n)) : 0 < n ∧ n ≤ l.length ∧ n ≤ 10 := by
 obtain ⟨h1, h2, _, _, _, rfl⟩ := front_inv h
 omega
theorem getD_take (l : List Nat) (i k : Nat) (h : i < k) : (l.take k).getD i 0 = l.getD i 0 := by
 simp [List.getD_eq_getElem?_getD, h]
theorem front_lt {l : List Nat} {x n : Nat} (h : front l = some (x, n)) : x < 18446744073709551616 := by
 obtain ⟨h1, h2, h3, h4, rfl, rfl⟩ := front_inv h
 by_cases h9 : lead l = 9
 ·have hb := h3 h9
  rw [h9] at h1 ⊢
  rw [List.take_succ_eq_append_getElem h1, val_snoc]
  have hv := val_lt (l.take 9)
  have hlen : (l.take 9).length = 9 := by simp; omega
  rw [hlen] at hv ⊢
  have he : l[9] = l.getD 9 0 := by simp [h1]
  rw [he]
  have hm : l.getD 9 0 % 128 ≤ 1 := by omega
  have : l.getD 9 0 % 128 * 128 ^ 9 ≤ 1 * 128 ^ 9 := Nat.mul_le_mul_right _ hm
  have e9 : 128 ^ 9 = 9223372036854775808 := by decide
  rw [e9] at hv this ⊢
  omega
 ·have hv := val_lt (l.take (lead l + 1))
  have hlen : (l.take (lead l + 1)).length = lead l + 1 := by simp; omega
  rw [hlen] at hv
  refine Nat.lt_of_lt_of_le hv (Nat.le_trans (Nat.pow_le_pow_right (by omega) (show lead l + 1 ≤ 9 by omega)) (by decide))
theorem lead_vi (x : Nat) (r : List Nat) : lead (vi x ++ r) + 1 = (vi x).length := by
 induction x using Nat.strongRecOn with
 | ind x ih =>
   by_cases h : x < 128
   ·rw [vi_small h]; simp [lead, show ¬ 128 ≤ x by omega]
   ·rw [vi_big (by omega)]
    simp only [List.cons_append, lead, show 128 ≤ 128 + x % 128 by omega, if_true, List.length_cons]
    rw [ih (x / 128) (by omega)]
theorem val_vi (x : Nat) : val (vi x) = x := by
 induction x using Nat.strongRecOn with
 | ind x ih =>
   by_cases h : x < 128
   ·rw [vi_small h]; simp [val]; omega
   ·rw [vi_big (by omega)]
    simp only [val]
    rw [ih (x / 128) (by omega)]
    omega
theorem vi_last (x : Nat) (r : List Nat) : (vi x ++ r).getD (lead (vi x ++ r)) 0 = x / 128 ^ lead (vi x ++ r) ∧ (0 < lead (vi x ++ r) → (vi x ++ r).getD (lead (vi x ++ r)) 0 ≠ 0) := by
 induction x using Nat.strongRecOn with
 | ind x ih =>
   by_cases h : x < 128
   ·rw [vi_small h]; simp [lead, show ¬ 128 ≤ x by omega]
   ·rw [vi_big (by omega)]
    obtain ⟨h1, h2⟩ := ih (x / 128) (by omega)
    simp only [List.cons_append, lead, show 128 ≤ 128 + x % 128 by omega, if_true, List.getD_cons_succ]
    refine ⟨by rw [h1, Nat.div_div_eq_div_mul, ← Nat.pow_succ'], fun _ => ?_⟩
    rcases Nat.eq_zero_or_pos (lead (vi (x / 128) ++ r)) with h0 | h0
    ·rw [h1, h0]; simp; omega
    ·exact h2 h0
theorem front_vi (x : Nat) (hx : x < 18446744073709551616) (r : List Nat) : front (vi x ++ r) = some (x, (vi x).length) := by
 have hl := lead_vi x r
 have h10 := vi_len10 x hx
 obtain ⟨hd, hn⟩ := vi_last x r
 rw [front_some (by simp; omega) (by omega) ?_ hn, hl]
 ·simp [val_vi]
 ·intro h9
  rw [h9] at hd
  rw [hd]
  have e9 : 128 ^ 9 = 9223372036854775808 := by decide
  rw [e9]
  omega
def unzz (x : Nat) : Int := if x % 2 = 0 then (x / 2 : Nat) else -((x / 2 : Nat) : Int) - 1
def tx (s : List Nat) : List Nat := vi s.length ++ s
def text (l : List Nat) (most : Int) : Option (List Nat × Nat) :=
 match front l with
 | none => none
 | some (c, n) => if most < 0 ∨ most < c ∨ l.length - n < c then none else some ((l.drop n).take c, n + c)
theorem text_tx (s : List Nat) (most : Int) (hs : s.length < 18446744073709551616) (h : (s.length : Int) ≤ most) (r : List Nat) : text (tx s ++ r) most = some (s, (tx s).length) := by
 have hf := front_vi s.length hs (s ++ r)
 unfold text tx
 rw [List.append_assoc, hf]
 simp only
 rw [if_neg]
 ·simp
 ·rintro (h1 | h1 | h1)
  ·omega
  ·omega
  ·simp at h1; omega
end Go.Proofs.YtdhgbkibbileiaaGreat.Cd
