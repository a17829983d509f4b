/-
PLAIN ARITHMETIC: fixed, counted and signed numbers as lists of bytes, and what stands at the front of a list of bytes. Nothing of the program.
-/
namespace Go.Proofs.Ytcajidlekfkjlaa.Cd

/-! ### Fixed numbers -/
def fixB : Nat → Nat → List Nat
  | 0, _ => []
  | k + 1, x => x % 256 :: fixB k (x / 256)
def unfix : List Nat → Nat
  | [] => 0
  | b :: r => b + 256 * unfix r
set_option maxRecDepth 100000 in
theorem fixB_len (k x : Nat) : (fixB k x).length = k := by
  induction k generalizing x with
  | zero => rfl
  | succ k ih => simp [fixB, ih]
set_option maxRecDepth 100000 in
theorem fixB_lt (k x : Nat) : ∀ y ∈ fixB k x, y < 256 := by
  induction k generalizing x with
  | zero => intro y hy; cases hy
  | succ k ih =>
    intro y hy
    simp only [fixB, List.mem_cons] at hy
    rcases hy with rfl | hy
    · omega
    · exact ih _ y hy
set_option maxRecDepth 100000 in
theorem unfix_fixB (k x : Nat) : unfix (fixB k x) = x % 256 ^ k := by
  induction k generalizing x with
  | zero => simp [fixB, unfix, Nat.mod_one]
  | succ k ih =>
    simp only [fixB, unfix, ih]
    rw [Nat.pow_succ, Nat.mul_comm (256 ^ k) 256, Nat.mod_mul]
set_option maxRecDepth 100000 in
theorem fixB_snoc (k x : Nat) : fixB (k + 1) x = fixB k x ++ [x / 256 ^ k % 256] := by
  induction k generalizing x with
  | zero => simp [fixB]
  | succ k ih =>
    rw [fixB, ih, fixB, List.cons_append, Nat.div_div_eq_div_mul, ← Nat.pow_succ']
set_option maxRecDepth 100000 in
theorem fixB_take (k j x : Nat) (h : j ≤ k) : (fixB k x).take j = fixB j x := by
  induction k generalizing x j with
  | zero => obtain rfl : j = 0 := by omega
            rfl
  | succ k ih =>
    match j with
    | 0 => rfl
    | j + 1 => simp only [fixB, List.take_succ_cons]; rw [ih _ _ (by omega)]
set_option maxRecDepth 100000 in
theorem unfix_snoc (l : List Nat) (x : Nat) : unfix (l ++ [x]) = unfix l + x * 256 ^ l.length := by
  induction l with
  | nil => simp [unfix]
  | cons b r ih =>
    simp only [List.cons_append, unfix, ih, List.length_cons, Nat.pow_succ]
    rw [Nat.mul_add, ← Nat.add_assoc, Nat.mul_comm (256 ^ r.length) 256, Nat.mul_left_comm 256 x]
set_option maxRecDepth 100000 in
theorem unfix_lt (l : List Nat) (h : ∀ x ∈ l, x < 256) : unfix l < 256 ^ l.length := by
  induction l with
  | nil => simp [unfix]
  | cons b r ih =>
    have hb := h b (by simp)
    have hr := ih fun x hx => h x (by simp [hx])
    simp only [unfix, List.length_cons, Nat.pow_succ]
    omega
set_option maxRecDepth 100000 in
theorem unfix_zero (l : List Nat) : unfix (0 :: l) = 256 * unfix l := by simp [unfix]

/-! ### Counted numbers -/
def vi (x : Nat) : List Nat := if x < 128 then [x] else (128 + x % 128) :: vi (x / 128)
  termination_by x
  decreasing_by omega
set_option maxRecDepth 100000 in
theorem vi_small {x : Nat} (h : x < 128) : vi x = [x] := by rw [vi, if_pos h]
set_option maxRecDepth 100000 in
theorem vi_big {x : Nat} (h : 128 ≤ x) : vi x = (128 + x % 128) :: vi (x / 128) := by rw [vi, if_neg (by omega)]
set_option maxRecDepth 100000 in
theorem vi_lt (x : Nat) : ∀ y ∈ vi x, y < 256 := by
  induction x using Nat.strongRecOn with
  | ind x ih =>
    intro y hy
    by_cases h : x < 128
    · rw [vi_small h] at hy
      simp only [List.mem_singleton] at hy
      omega
    · rw [vi_big (by omega)] at hy
      simp only [List.mem_cons] at hy
      rcases hy with rfl | hy
      · omega
      · exact ih (x / 128) (by omega) y hy
set_option maxRecDepth 100000 in
theorem vi_pos (x : Nat) : 0 < (vi x).length := by
  by_cases h : x < 128
  · rw [vi_small h]; simp
  · rw [vi_big (by omega)]; simp
set_option maxRecDepth 100000 in
theorem vi_len (k x : Nat) (h : x < 128 ^ (k + 1)) : (vi x).length ≤ k + 1 := by
  induction k generalizing x with
  | zero => rw [vi_small (by simpa using h)]; simp
  | succ k ih =>
    by_cases hx : x < 128
    · rw [vi_small hx]; simp
    · rw [vi_big (by omega)]
      have : x / 128 < 128 ^ (k + 1) := by rw [Nat.div_lt_iff_lt_mul (by omega)]; rw [Nat.pow_succ] at h; exact h
      have := ih _ this
      simp
      omega
set_option maxRecDepth 100000 in
theorem vi_len10 (x : Nat) (h : x < 18446744073709551616) : (vi x).length ≤ 10 := vi_len 9 x (Nat.lt_of_lt_of_le h (by decide))

/-- how many bytes at the front have the mark -/
def lead : List Nat → Nat
  | [] => 0
  | b :: r => if 128 ≤ b then lead r + 1 else 0
def val : List Nat → Nat
  | [] => 0
  | b :: r => b % 128 + 128 * val r
set_option maxRecDepth 100000 in
theorem lead_le (l : List Nat) : lead l ≤ l.length := by
  induction l with
  | nil => simp [lead]
  | cons b r ih => simp only [lead]; split <;> simp <;> omega
set_option maxRecDepth 100000 in
theorem lead_at (l : List Nat) : ∀ i, i < lead l → 128 ≤ l.getD i 0 := by
  induction l with
  | nil => intro i hi; simp [lead] at hi
  | cons b r ih =>
    intro i hi
    simp only [lead] at hi
    split at hi
    · match i with
      | 0 => simpa
      | i + 1 => simpa using ih i (by omega)
    · omega
set_option maxRecDepth 100000 in
theorem lead_end (l : List Nat) (h : lead l < l.length) : l.getD (lead l) 0 < 128 := by
  induction l with
  | nil => simp at h
  | cons b r ih =>
    by_cases hb : 128 ≤ b
    · simp only [lead, if_pos hb, List.length_cons] at h ⊢
      simpa using ih (by omega)
    · simp only [lead, if_neg hb]
      simp; omega
set_option maxRecDepth 100000 in
/-- the first i all have the mark -/
theorem lead_ge (l : List Nat) (i : Nat) (hi : i ≤ l.length) (h : ∀ j, j < i → 128 ≤ l.getD j 0) : i ≤ lead l := by
  rcases Nat.lt_or_ge (lead l) i with h1 | h1
  · have := lead_end l (by omega)
    have := h (lead l) h1
    omega
  · exact h1
set_option maxRecDepth 100000 in
theorem lead_eq (l : List Nat) (i : Nat) (hi : i < l.length) (h : ∀ j, j < i → 128 ≤ l.getD j 0) (hb : l.getD i 0 < 128) : lead l = i := by
  have h1 := lead_ge l i (by omega) h
  rcases Nat.lt_or_ge i (lead l) with h2 | h2
  · have := lead_at l i h2
    omega
  · omega
set_option maxRecDepth 100000 in
theorem val_snoc (l : List Nat) (x : Nat) : val (l ++ [x]) = val l + x % 128 * 128 ^ l.length := by
  induction l with
  | nil => simp [val]
  | cons b r ih =>
    simp only [List.cons_append, val, ih, List.length_cons, Nat.pow_succ]
    rw [Nat.mul_add, ← Nat.add_assoc, Nat.mul_comm (128 ^ r.length) 128, Nat.mul_left_comm 128 (x % 128)]
set_option maxRecDepth 100000 in
theorem val_lt (l : List Nat) : val l < 128 ^ l.length := by
  induction l with
  | nil => simp [val]
  | cons b r ih =>
    simp only [val, List.length_cons, Nat.pow_succ]
    omega

/-- The counted number at the front of a list of bytes, and how many bytes it has. -/
def front (l : List Nat) : Option (Nat × Nat) :=
  if l.length ≤ lead l ∨ 9 < lead l ∨ (lead l = 9 ∧ 1 < l.getD 9 0) ∨ (0 < lead l ∧ l.getD (lead l) 0 = 0) then none
  else some (val (l.take (lead l + 1)), lead l + 1)
set_option maxRecDepth 100000 in
theorem front_some {l : List Nat} (h1 : lead l < l.length) (h2 : lead l ≤ 9) (h3 : lead l = 9 → l.getD 9 0 ≤ 1) (h4 : 0 < lead l → l.getD (lead l) 0 ≠ 0) :
    front l = some (val (l.take (lead l + 1)), lead l + 1) := by
  unfold front
  rw [if_neg]
  rintro (h | h | ⟨h, h'⟩ | ⟨h, h'⟩)
  · omega
  · omega
  · have := h3 h; omega
  · exact h4 h h'
set_option maxRecDepth 100000 in
theorem front_none {l : List Nat} (h : l.length ≤ lead l ∨ 9 < lead l ∨ (lead l = 9 ∧ 1 < l.getD 9 0) ∨ (0 < lead l ∧ l.getD (lead l) 0 = 0)) : front l = none := by
  unfold front
  rw [if_pos h]
set_option maxRecDepth 100000 in
theorem front_inv {l : List Nat} {x n : Nat} (h : front l = some (x, n)) :
    lead l < l.length ∧ lead l ≤ 9 ∧ (lead l = 9 → l.getD 9 0 ≤ 1) ∧ (0 < lead l → l.getD (lead l) 0 ≠ 0) ∧ x = val (l.take (lead l + 1)) ∧ n = lead l + 1 := by
  unfold front at h
  split at h
  · cases h
  · rename_i hc
    simp only [Option.some.injEq, Prod.mk.injEq] at h
    refine ⟨?_, ?_, ?_, ?_, h.1.symm, h.2.symm⟩
    · rcases Nat.lt_or_ge (lead l) l.length with h1 | h1
      · exact h1
      · exact absurd (Or.inl h1) hc
    · rcases Nat.lt_or_ge 9 (lead l) with h1 | h1
      · exact absurd (Or.inr (Or.inl h1)) hc
      · exact h1
    · intro h9
      rcases Nat.lt_or_ge 1 (l.getD 9 0) with h1 | h1
      · exact absurd (Or.inr (Or.inr (Or.inl ⟨h9, h1⟩))) hc
      · exact h1
    · intro h0 h1
      exact hc (Or.inr (Or.inr (Or.inr ⟨h0, h1⟩)))
set_option maxRecDepth 100000 in
theorem front_pos {l : List Nat} {x n : Nat} (h : front l = some (x, n)) : 0 < n ∧ n ≤ l.length ∧ n ≤ 10 := by
  obtain ⟨h1, h2, _, _, _, rfl⟩ := front_inv h
  omega
set_option maxRecDepth 100000 in
theorem getD_take (l : List Nat) (i k : Nat) (h : i < k) : (l.take k).getD i 0 = l.getD i 0 := by
  simp [List.getD_eq_getElem?_getD, h]
set_option maxRecDepth 100000 in
theorem front_lt {l : List Nat} {x n : Nat} (h : front l = some (x, n)) : x < 18446744073709551616 := by
  obtain ⟨h1, h2, h3, h4, rfl, rfl⟩ := front_inv h
  by_cases h9 : lead l = 9
  · have hb := h3 h9
    rw [h9] at h1 ⊢
    rw [List.take_succ_eq_append_getElem h1, val_snoc]
    have hv := val_lt (l.take 9)
    have hlen : (l.take 9).length = 9 := by simp; omega
    rw [hlen] at hv ⊢
    have he : l[9] = l.getD 9 0 := by simp [h1]
    rw [he]
    have hm : l.getD 9 0 % 128 ≤ 1 := by omega
    have : l.getD 9 0 % 128 * 128 ^ 9 ≤ 1 * 128 ^ 9 := Nat.mul_le_mul_right _ hm
    have e9 : 128 ^ 9 = 9223372036854775808 := by decide
    rw [e9] at hv this ⊢
    omega
  · have hv := val_lt (l.take (lead l + 1))
    have hlen : (l.take (lead l + 1)).length = lead l + 1 := by simp; omega
    rw [hlen] at hv
    refine Nat.lt_of_lt_of_le hv (Nat.le_trans (Nat.pow_le_pow_right (by omega) (show lead l + 1 ≤ 9 by omega)) (by decide))

set_option maxRecDepth 100000 in
theorem lead_vi (x : Nat) (r : List Nat) : lead (vi x ++ r) + 1 = (vi x).length := by
  induction x using Nat.strongRecOn with
  | ind x ih =>
    by_cases h : x < 128
    · rw [vi_small h]; simp [lead, show ¬ 128 ≤ x by omega]
    · rw [vi_big (by omega)]
      simp only [List.cons_append, lead, show 128 ≤ 128 + x % 128 by omega, if_true, List.length_cons]
      rw [ih (x / 128) (by omega)]
set_option maxRecDepth 100000 in
theorem val_vi (x : Nat) : val (vi x) = x := by
  induction x using Nat.strongRecOn with
  | ind x ih =>
    by_cases h : x < 128
    · rw [vi_small h]; simp [val]; omega
    · rw [vi_big (by omega)]
      simp only [val]
      rw [ih (x / 128) (by omega)]
      omega
set_option maxRecDepth 100000 in
/-- the last byte is no nought, if there are several, and is what is left of the number -/
theorem vi_last (x : Nat) (r : List Nat) : (vi x ++ r).getD (lead (vi x ++ r)) 0 = x / 128 ^ lead (vi x ++ r) ∧ (0 < lead (vi x ++ r) → (vi x ++ r).getD (lead (vi x ++ r)) 0 ≠ 0) := by
  induction x using Nat.strongRecOn with
  | ind x ih =>
    by_cases h : x < 128
    · rw [vi_small h]; simp [lead, show ¬ 128 ≤ x by omega]
    · rw [vi_big (by omega)]
      obtain ⟨h1, h2⟩ := ih (x / 128) (by omega)
      simp only [List.cons_append, lead, show 128 ≤ 128 + x % 128 by omega, if_true, List.getD_cons_succ]
      refine ⟨by rw [h1, Nat.div_div_eq_div_mul, ← Nat.pow_succ'], fun _ => ?_⟩
      rcases Nat.eq_zero_or_pos (lead (vi (x / 128) ++ r)) with h0 | h0
      · rw [h1, h0]; simp; omega
      · exact h2 h0
set_option maxRecDepth 100000 in
theorem front_vi (x : Nat) (hx : x < 18446744073709551616) (r : List Nat) : front (vi x ++ r) = some (x, (vi x).length) := by
  have hl := lead_vi x r
  have h10 := vi_len10 x hx
  obtain ⟨hd, hn⟩ := vi_last x r
  rw [front_some (by simp; omega) (by omega) ?_ hn, hl]
  · simp [val_vi]
  · intro h9
    rw [h9] at hd
    rw [hd]
    have e9 : 128 ^ 9 = 9223372036854775808 := by decide
    rw [e9]
    omega
set_option maxRecDepth 100000 in
theorem vi_take_mark (x k : Nat) (hk : k < (vi x).length) : ∀ j, j < k → 128 ≤ ((vi x).take k).getD j 0 := by
  intro j hj
  rw [getD_take _ _ _ hj]
  have hl := lead_vi x []
  simp only [List.append_nil] at hl
  exact lead_at _ j (by omega)
set_option maxRecDepth 100000 in
theorem front_cut (x k : Nat) (hk : k < (vi x).length) : front ((vi x).take k) = none := by
  refine front_none (Or.inl ?_)
  exact lead_ge _ _ (Nat.le_refl _) fun j hj => vi_take_mark x k hk j (by simp at hj; omega)
set_option maxRecDepth 100000 in
theorem vi_val (l : List Nat) : (∀ x ∈ l, x < 256) → lead l < l.length → (0 < lead l → l.getD (lead l) 0 ≠ 0) → vi (val (l.take (lead l + 1))) = l.take (lead l + 1) := by
  induction l with
  | nil => intro _ h; simp at h
  | cons b r ih =>
    intro hlt h h0
    by_cases hb : 128 ≤ b
    · simp only [lead, if_pos hb, List.length_cons] at h h0 ⊢
      simp only [List.getD_cons_succ] at h0
      have hb2 := hlt b (by simp)
      have hr := ih (fun x hx => hlt x (by simp [hx])) (by omega) (fun _ => h0 (by omega))
      simp only [List.take_succ_cons, val]
      have hv : 0 < val (r.take (lead r + 1)) := by
        rcases Nat.eq_zero_or_pos (val (r.take (lead r + 1))) with hz | hz
        · exfalso
          rw [hz, vi_small (by omega)] at hr
          have hl0 : lead r = 0 := by
            have := congrArg List.length hr
            simp at this
            omega
          rw [hl0] at hr h0
          have h2 := h0 (by omega)
          apply h2
          match r, hr with
          | a :: r', hr => simp at hr; simp; omega
        · exact hz
      rw [vi_big (by omega)]
      congr 1
      · omega
      · rw [show (b % 128 + 128 * val (r.take (lead r + 1))) / 128 = val (r.take (lead r + 1)) by omega]
        exact hr
    · simp only [lead, if_neg hb, Nat.zero_add]
      have hb2 : b % 128 = b := by omega
      simp only [List.take_succ_cons, List.take_zero, val, Nat.mul_zero, Nat.add_zero, hb2]
      exact vi_small (by omega)
set_option maxRecDepth 100000 in
theorem front_one {l : List Nat} {x n : Nat} (hlt : ∀ y ∈ l, y < 256) (h : front l = some (x, n)) : vi x = l.take n := by
  obtain ⟨h1, _, _, h4, rfl, rfl⟩ := front_inv h
  exact vi_val l hlt h1 h4

/-! ### Signed numbers -/
def zz (x : Int) : Nat := if 0 ≤ x then 2 * x.toNat else 2 * (-x - 1).toNat + 1
def unzz (x : Nat) : Int := if x % 2 = 0 then (x / 2 : Nat) else -((x / 2 : Nat) : Int) - 1
set_option maxRecDepth 100000 in
theorem unzz_zz (x : Int) : unzz (zz x) = x := by
  unfold unzz zz
  by_cases h : 0 ≤ x
  · rw [if_pos h, if_pos (by omega)]; omega
  · rw [if_neg h, if_neg (by omega)]; omega
set_option maxRecDepth 100000 in
theorem zz_unzz (x : Nat) : zz (unzz x) = x := by
  unfold unzz zz
  by_cases h : x % 2 = 0
  · rw [if_pos h, if_pos (by omega)]; omega
  · rw [if_neg h, if_neg (by omega)]; omega
set_option maxRecDepth 100000 in
theorem zz_lt (x : Int) (h1 : -9223372036854775808 ≤ x) (h2 : x ≤ 9223372036854775807) : zz x < 18446744073709551616 := by
  unfold zz; split <;> omega
set_option maxRecDepth 100000 in
theorem unzz_bd (x : Nat) (h : x < 18446744073709551616) : -9223372036854775808 ≤ unzz x ∧ unzz x ≤ 9223372036854775807 := by
  unfold unzz; split <;> omega

/-! ### Texts -/
def tx (s : List Nat) : List Nat := vi s.length ++ s
/-- the text at the front, of at most so many bytes; and how many bytes it has with its count -/
def text (l : List Nat) (most : Int) : Option (List Nat × Nat) :=
  match front l with
  | none => none
  | some (c, n) => if most < 0 ∨ most < c ∨ l.length - n < c then none else some ((l.drop n).take c, n + c)
set_option maxRecDepth 100000 in
theorem text_tx (s : List Nat) (most : Int) (hs : s.length < 18446744073709551616) (h : (s.length : Int) ≤ most) (r : List Nat) : text (tx s ++ r) most = some (s, (tx s).length) := by
  have hf := front_vi s.length hs (s ++ r)
  unfold text tx
  rw [List.append_assoc, hf]
  simp only
  rw [if_neg]
  · simp
  · rintro (h1 | h1 | h1)
    · omega
    · omega
    · simp at h1; omega
set_option maxRecDepth 100000 in
theorem text_one {l s : List Nat} {most : Int} {n : Nat} (hlt : ∀ y ∈ l, y < 256) (h : text l most = some (s, n)) : tx s = l.take n ∧ (s.length : Int) ≤ most ∧ n ≤ l.length := by
  unfold text at h
  cases hf : front l with
  | none => rw [hf] at h; cases h
  | some p =>
    obtain ⟨c, m⟩ := p
    rw [hf] at h
    simp only at h
    split at h
    · cases h
    · rename_i hc
      simp only [Option.some.injEq, Prod.mk.injEq] at h
      obtain ⟨rfl, rfl⟩ := h
      have hp := front_pos hf
      have hc1 : ¬ most < c := fun h => hc (Or.inr (Or.inl h))
      have hc2 : ¬ l.length - m < c := fun h => hc (Or.inr (Or.inr h))
      have hlen : ((l.drop m).take c).length = c := by simp; omega
      refine ⟨?_, by rw [hlen]; omega, by omega⟩
      unfold tx
      rw [hlen, front_one hlt hf, List.take_add]
set_option maxRecDepth 100000 in
theorem text_cut (s : List Nat) (most : Int) (k : Nat) (hs : s.length < 18446744073709551616) (hk : k < (tx s).length) : text ((tx s).take k) most = none := by
  unfold text
  rcases Nat.lt_or_ge k (vi s.length).length with h | h
  · have : (tx s).take k = (vi s.length).take k := by unfold tx; rw [List.take_append_of_le_length (by omega)]
    rw [this, front_cut _ _ h]
  · obtain ⟨j, rfl⟩ : ∃ j, k = (vi s.length).length + j := ⟨k - (vi s.length).length, by omega⟩
    have : (tx s).take ((vi s.length).length + j) = vi s.length ++ s.take j := by unfold tx; rw [List.take_append, List.take_of_length_le (by omega)]; simp
    rw [this, front_vi _ hs]
    simp only
    rw [if_pos]
    unfold tx at hk
    simp at hk ⊢
    omega
end Go.Proofs.Ytcajidlekfkjlaa.Cd
