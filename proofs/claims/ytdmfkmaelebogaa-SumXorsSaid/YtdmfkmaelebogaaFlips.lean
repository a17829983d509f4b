/-
  THE PLAIN ARITHMETIC OF TURNED BITS: a sealed text of which one byte is changed, or bits within 32 side by side are turned, may be opened no more. Numbers and lists alone.
-/
import Derived.Test.YtdmfkmaelebogaaMath
namespace Go.Proofs.Ytdmfkmaelebogaa.Crc

theorem bits8_length (x : Nat) : (bits8 x).length = 8 := rfl
theorem bitsOf_cons (x : Nat) (l : List Nat) : bitsOf (x :: l) = bits8 x ++ bitsOf l := rfl
theorem bits8_get (x j : Nat) (h : j < 8) : (bits8 x)[j]? = some (x.testBit j) := by
  match j, h with
  | 0, _ => rfl
  | 1, _ => rfl
  | 2, _ => rfl
  | 3, _ => rfl
  | 4, _ => rfl
  | 5, _ => rfl
  | 6, _ => rfl
  | 7, _ => rfl
/-- bit j of a text: the bytes' bits, the lowest first -/
def bitAt (l : List Nat) (j : Nat) : Bool := (l.getD (j / 8) 0).testBit (j % 8)
theorem bitsOf_get (l : List Nat) (j : Nat) (h : j < 8 * l.length) : (bitsOf l)[j]? = some (bitAt l j) := by
  induction l generalizing j with
  | nil => simp at h
  | cons x l ih =>
    rw [bitsOf_cons]
    by_cases hj : j < 8
    · rw [List.getElem?_append_left (by rw [bits8_length]; exact hj), bits8_get x j hj]
      unfold bitAt
      rw [show j / 8 = 0 by omega, show j % 8 = j by omega]
      rfl
    · rw [List.getElem?_append_right (by rw [bits8_length]; omega), bits8_length, ih (j - 8) (by simp only [List.length_cons] at h; omega)]
      unfold bitAt
      rw [show j / 8 = (j - 8) / 8 + 1 by omega, show j % 8 = (j - 8) % 8 by omega]
      simp
theorem bitsOf_none (l : List Nat) (j : Nat) (h : 8 * l.length ≤ j) : (bitsOf l)[j]? = none := by
  rw [List.getElem?_eq_none]
  rw [bitsOf_length]
  exact h
/-- texts of one length with the same bits in a range -/
theorem take_same {x y : List Nat} (hl : x.length = y.length) (a : Nat) (h : ∀ j, j < a → bitAt x j = bitAt y j) : (bitsOf x).take a = (bitsOf y).take a := by
  apply List.ext_getElem?
  intro j
  by_cases hj : j < a
  · rw [List.getElem?_take_of_lt hj, List.getElem?_take_of_lt hj]
    by_cases hb : j < 8 * x.length
    · rw [bitsOf_get x j hb, bitsOf_get y j (by omega), h j hj]
    · rw [bitsOf_none x j (by omega), bitsOf_none y j (by omega)]
  · rw [List.getElem?_eq_none (by simp; omega), List.getElem?_eq_none (by simp; omega)]
theorem drop_same {x y : List Nat} (hl : x.length = y.length) (a : Nat) (h : ∀ j, a ≤ j → bitAt x j = bitAt y j) : (bitsOf x).drop a = (bitsOf y).drop a := by
  apply List.ext_getElem?
  intro j
  rw [List.getElem?_drop, List.getElem?_drop]
  by_cases hb : a + j < 8 * x.length
  · rw [bitsOf_get x _ hb, bitsOf_get y _ (by omega), h _ (by omega)]
  · rw [bitsOf_none x _ (by omega), bitsOf_none y _ (by omega)]
/-- P1.5, said of bits -/
theorem good_no {x y : List Nat} (hx : ∀ z ∈ x, z < 256) (hy : ∀ z ∈ y, z < 256) (hl : x.length = y.length) (gx : Good x) (a k : Nat) (hk : k ≤ 32)
    (h : ∀ j, (j < a ∨ a + k ≤ j) → bitAt x j = bitAt y j) (i : Nat) (hi : i < 8 * x.length) (hne : bitAt x i ≠ bitAt y i) : ¬ Good y := by
  intro gy
  have e := good_burst hx hy gx gy a k hk (take_same hl a fun j hj => h j (.inl hj)) (drop_same hl (a + k) fun j hj => h j (.inr hj)) hl
  have e1 := bitsOf_get x i hi
  rw [e, bitsOf_get y i (by omega)] at e1
  exact hne (by injection e1 with e1; exact e1.symm)

/-! ### One byte changed -/
theorem getD_set (x : List Nat) (q v r : Nat) (hq : q < x.length) : (x.set q v).getD r 0 = if q = r then v else x.getD r 0 := by
  simp only [List.getD_eq_getElem?_getD, List.getElem?_set]
  by_cases h : q = r
  · subst h
    simp [hq]
  · simp [h]
theorem getD_lt {x : List Nat} (hx : ∀ z ∈ x, z < 256) (q : Nat) : x.getD q 0 < 256 := by
  by_cases hq : q < x.length
  · have e : x.getD q 0 = x[q] := by simp [hq]
    rw [e]
    exact hx _ (List.getElem_mem hq)
  · have e : x.getD q 0 = 0 := by simp [show x.length ≤ q by omega]
    omega
theorem byte_lt {a b : Nat} (ha : a < 256) (hb : b < 256) : a ^^^ b < 256 := Nat.xor_lt_two_pow (n := 8) ha hb
theorem set_lt {x : List Nat} (hx : ∀ z ∈ x, z < 256) {q v : Nat} (hv : v < 256) : ∀ z ∈ x.set q v, z < 256 := by
  intro z hz
  rcases List.mem_or_eq_of_mem_set hz with h | h
  · exact hx z h
  · omega
theorem byte_no {x : List Nat} (hx : ∀ z ∈ x, z < 256) (gx : Good x) (m d : Nat) (hm : m < x.length) (hd : 0 < d) (hd8 : d < 256) :
    ¬ Good (x.set m (x.getD m 0 ^^^ d)) := by
  have hv := byte_lt (getD_lt hx m) hd8
  obtain ⟨t, ht, h8⟩ : ∃ t, d.testBit t = true ∧ t < 8 := by
    obtain ⟨t, ht⟩ := Nat.exists_testBit_of_ne_zero (show d ≠ 0 by omega)
    refine ⟨t, ht, ?_⟩
    rcases Nat.lt_or_ge t 8 with h | h
    · exact h
    · have hlt : d < 2 ^ t := Nat.lt_of_lt_of_le (show d < 2 ^ 8 from hd8) (Nat.pow_le_pow_right (by decide) h)
      rw [Nat.testBit_lt_two_pow hlt] at ht
      cases ht
  refine good_no hx (set_lt hx hv) (by simp) gx (8 * m) 8 (by omega) (fun j hj => ?_) (8 * m + t) (by omega) ?_
  · unfold bitAt
    rw [getD_set _ _ _ _ hm, if_neg (by omega)]
  · unfold bitAt
    rw [getD_set _ _ _ _ hm, show (8 * m + t) / 8 = m by omega, show (8 * m + t) % 8 = t by omega, if_pos rfl, Nat.testBit_xor, ht]
    cases (x.getD m 0).testBit t <;> simp

/-! ### Bits turned -/
def flip1 (x : List Nat) (i : Nat) : List Nat := x.set (i / 8) (x.getD (i / 8) 0 ^^^ 2 ^ (i % 8))
/-- behind k rounds: of the bits from place a on those are turned that the pattern names -/
def flips (x : List Nat) (a bits : Nat) : Nat → List Nat
  | 0 => x
  | k + 1 => if bits.testBit k then flip1 (flips x a bits k) (a + k) else flips x a bits k
/-- whether one was -/
def turned (bits : Nat) : Nat → Bool
  | 0 => false
  | k + 1 => turned bits k || bits.testBit k
theorem flip1_length (x : List Nat) (i : Nat) : (flip1 x i).length = x.length := by simp [flip1]
theorem flips_length (x : List Nat) (a bits k : Nat) : (flips x a bits k).length = x.length := by
  induction k with
  | zero => rfl
  | succ k ih => simp only [flips]; split <;> simp [flip1_length, ih]
theorem pow_lt (i : Nat) : 2 ^ (i % 8) < 256 := by
  have h : 2 ^ (i % 8) ≤ 2 ^ 7 := Nat.pow_le_pow_right (by decide) (by omega)
  have : (2 : Nat) ^ 7 = 128 := rfl
  omega
theorem flip1_lt {x : List Nat} (hx : ∀ z ∈ x, z < 256) (i : Nat) : ∀ z ∈ flip1 x i, z < 256 := set_lt hx (byte_lt (getD_lt hx _) (pow_lt i))
theorem flips_lt {x : List Nat} (hx : ∀ z ∈ x, z < 256) (a bits k : Nat) : ∀ z ∈ flips x a bits k, z < 256 := by
  induction k with
  | zero => exact hx
  | succ k ih => simp only [flips]; split; exact flip1_lt ih _; exact ih
theorem bitAt_flip1 (x : List Nat) (i j : Nat) (hi : i < 8 * x.length) : bitAt (flip1 x i) j = (bitAt x j ^^ decide (i = j)) := by
  unfold bitAt flip1
  rw [getD_set _ _ _ _ (by omega)]
  by_cases hq : i / 8 = j / 8
  · rw [if_pos hq, Nat.testBit_xor, Nat.testBit_two_pow, hq]
    congr 1
    rw [decide_eq_decide]
    omega
  · rw [if_neg hq]
    have : ¬ i = j := fun e => hq (by rw [e])
    simp [this]
theorem bitAt_flips (x : List Nat) (a bits k j : Nat) (h : a + k ≤ 8 * x.length) : bitAt (flips x a bits k) j = (bitAt x j ^^ (decide (a ≤ j ∧ j < a + k) && bits.testBit (j - a))) := by
  induction k with
  | zero =>
    rw [flips, decide_eq_false (show ¬ (a ≤ j ∧ j < a + 0) by omega), Bool.false_and, Bool.xor_false]
  | succ k ih =>
    have ih := ih (by omega)
    simp only [flips]
    by_cases hb : bits.testBit k = true
    · rw [if_pos hb, bitAt_flip1 _ _ _ (by rw [flips_length]; omega), ih]
      by_cases hj : a + k = j
      · rw [decide_eq_false (show ¬ (a ≤ j ∧ j < a + k) by omega), decide_eq_true (show a ≤ j ∧ j < a + (k + 1) by omega), decide_eq_true hj, show j - a = k by omega, hb, Bool.false_and, Bool.xor_false, Bool.true_and]
      · have : (a ≤ j ∧ j < a + k) ↔ (a ≤ j ∧ j < a + (k + 1)) := by omega
        simp only [hj, decide_false, Bool.xor_false, this]
    · rw [if_neg hb, ih]
      have hb' : bits.testBit k = false := by simpa using hb
      by_cases hj : a + k = j
      · rw [decide_eq_false (show ¬ (a ≤ j ∧ j < a + k) by omega), show j - a = k by omega, hb', Bool.and_false, Bool.and_false]
      · have : (a ≤ j ∧ j < a + k) ↔ (a ≤ j ∧ j < a + (k + 1)) := by omega
        simp only [this]
theorem turned_yes {bits k : Nat} (h : turned bits k = true) : ∃ j, j < k ∧ bits.testBit j = true := by
  induction k with
  | zero => cases h
  | succ k ih =>
    simp only [turned, Bool.or_eq_true] at h
    rcases h with h | h
    · obtain ⟨j, hj, hb⟩ := ih h
      exact ⟨j, by omega, hb⟩
    · exact ⟨k, by omega, h⟩
theorem flips_none {x : List Nat} {a bits k : Nat} (h : turned bits k = false) : flips x a bits k = x := by
  induction k with
  | zero => rfl
  | succ k ih =>
    simp only [turned, Bool.or_eq_false_iff] at h
    simp only [flips, h.2]
    exact ih h.1
theorem flips_no {x : List Nat} (hx : ∀ z ∈ x, z < 256) (gx : Good x) (a bits k : Nat) (h : a + k ≤ 8 * x.length) (hk : k ≤ 32) (ht : turned bits k = true) :
    ¬ Good (flips x a bits k) := by
  obtain ⟨j, hj, hb⟩ := turned_yes ht
  refine good_no hx (flips_lt hx a bits k) (flips_length x a bits k).symm gx a k hk (fun i hi => ?_) (a + j) (by omega) ?_
  · rw [bitAt_flips x a bits k i h]
    have : ¬ (a ≤ i ∧ i < a + k) := by omega
    simp [this]
  · rw [bitAt_flips x a bits k (a + j) h]
    have h1 : a ≤ a + j ∧ a + j < a + k := by omega
    have h2 : a + j - a = j := by omega
    simp only [h1, h2, hb, and_self, decide_true, Bool.true_and]
    cases bitAt x (a + j) <;> simp
end Go.Proofs.Ytdmfkmaelebogaa.Crc
