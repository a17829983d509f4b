/-
  THE PLAIN ARITHMETIC OF CRC-32C, without any Go: a register of 32 bits that goes on by a bit or a byte; sums go on from one another; of two texts xored the sums are xored; where bits are turned within 32 side by side, the register ends elsewhere. Natural numbers and lists alone.
-/
namespace Go.Proofs.Ytajmpoanmdgmpaa.Crc

/-- one step of the register -/
def stp (r : Nat) : Nat := (r / 2) ^^^ (if r % 2 = 1 then 2197175160 else 0)
def stpN : Nat → Nat → Nat
  | 0, r => r
  | k + 1, r => stpN k (stp r)
/-- a byte -/
def byt (r x : Nat) : Nat := stpN 8 (r ^^^ x)
/-- bytes -/
def crc (r : Nat) (l : List Nat) : Nat := l.foldl byt r
def more (s : Nat) (l : List Nat) : Nat := crc (s ^^^ 4294967295) l ^^^ 4294967295

theorem stpN_succ (k r : Nat) : stpN (k + 1) r = stp (stpN k r) := by
  induction k generalizing r with
  | zero => rfl
  | succ k ih => rw [stpN, ih, ← stpN]

theorem xor_lt {a b : Nat} (ha : a < 4294967296) (hb : b < 4294967296) : a ^^^ b < 4294967296 :=
  Nat.xor_lt_two_pow (n := 32) ha hb

theorem stp_lt {r : Nat} (h : r < 4294967296) : stp r < 4294967296 := by
  unfold stp
  refine xor_lt (by omega) ?_
  split <;> omega
theorem stpN_lt (k : Nat) {r : Nat} (h : r < 4294967296) : stpN k r < 4294967296 := by
  induction k generalizing r with
  | zero => exact h
  | succ k ih => exact ih (stp_lt h)
theorem byt_lt {r x : Nat} (h : r < 4294967296) (hx : x < 256) : byt r x < 4294967296 := stpN_lt 8 (xor_lt h (by omega))
theorem crc_lt {r : Nat} {l : List Nat} (h : r < 4294967296) (hl : ∀ x ∈ l, x < 256) : crc r l < 4294967296 := by
  induction l generalizing r with
  | nil => exact h
  | cons x l ih => exact ih (byt_lt h (hl x (by simp))) fun y hy => hl y (by simp [hy])
theorem more_lt {s : Nat} {l : List Nat} (h : s < 4294967296) (hl : ∀ x ∈ l, x < 256) : more s l < 4294967296 :=
  xor_lt (crc_lt (xor_lt h (by omega)) hl) (by omega)

theorem crc_append (r : Nat) (a b : List Nat) : crc r (a ++ b) = crc (crc r a) b := List.foldl_append ..
theorem crc_snoc (r : Nat) (a : List Nat) (x : Nat) : crc r (a ++ [x]) = byt (crc r a) x := by rw [crc_append]; rfl
theorem xor_twice (a b : Nat) : a ^^^ b ^^^ b = a := by rw [Nat.xor_assoc, Nat.xor_self, Nat.xor_zero]
/-- P1.4: a sum goes on -/
theorem more_parts (s : Nat) (a b : List Nat) : more (more s a) b = more s (a ++ b) := by
  unfold more
  rw [xor_twice, crc_append]

/-! ### Linear -/
theorem div2_xor (a b : Nat) : (a ^^^ b) / 2 = a / 2 ^^^ b / 2 := Nat.xor_div_two
theorem mod2_xor (a b : Nat) : (a ^^^ b) % 2 = (a % 2 + b % 2) % 2 := by
  have h := Nat.xor_mod_two_pow (a := a) (b := b) (n := 1)
  rw [Nat.pow_one] at h
  rw [h]
  rcases Nat.mod_two_eq_zero_or_one a with ha | ha <;> rcases Nat.mod_two_eq_zero_or_one b with hb | hb <;> simp [ha, hb]
theorem xor4 (a b c d : Nat) : (a ^^^ b) ^^^ (c ^^^ d) = (a ^^^ c) ^^^ (b ^^^ d) := by
  rw [Nat.xor_assoc, Nat.xor_assoc, ← Nat.xor_assoc b, Nat.xor_comm b c, Nat.xor_assoc c]
theorem stp_xor (a b : Nat) : stp (a ^^^ b) = stp a ^^^ stp b := by
  unfold stp
  rw [div2_xor, xor4]
  congr 1
  have := mod2_xor a b
  rcases Nat.mod_two_eq_zero_or_one a with ha | ha <;> rcases Nat.mod_two_eq_zero_or_one b with hb | hb <;> simp [ha, hb, this]
theorem stpN_xor (k a b : Nat) : stpN k (a ^^^ b) = stpN k a ^^^ stpN k b := by
  induction k generalizing a b with
  | zero => rfl
  | succ k ih => simp only [stpN, stp_xor, ih]
theorem byt_xor (a b x y : Nat) : byt (a ^^^ b) (x ^^^ y) = byt a x ^^^ byt b y := by
  unfold byt
  rw [xor4, stpN_xor]
theorem crc_xor (a b : Nat) (l m : List Nat) (h : l.length = m.length) : crc (a ^^^ b) (List.zipWith (· ^^^ ·) l m) = crc a l ^^^ crc b m := by
  induction l generalizing a b m with
  | nil => cases m with
    | nil => rfl
    | cons y m => simp at h
  | cons x l ih => cases m with
    | nil => simp at h
    | cons y m =>
      simp only [crc, List.zipWith_cons_cons, List.foldl_cons, byt_xor] at ih ⊢
      exact ih _ _ _ (by simpa using h)
/-- P1.4: the sums of two texts xored, and that of noughts -/
theorem more_xors (l m : List Nat) (h : l.length = m.length) :
    more 0 (List.zipWith (· ^^^ ·) l m) = (more 0 l ^^^ more 0 m) ^^^ more 0 (List.replicate l.length 0) := by
  unfold more
  have e1 := crc_xor 4294967295 4294967295 l m h
  have e0 : ∀ (r : Nat) (n : List Nat), crc r n = crc (r ^^^ 0) (List.zipWith (· ^^^ ·) n (List.replicate n.length 0)) := by
    intro r n
    rw [Nat.xor_zero]
    congr 1
    induction n with
    | nil => rfl
    | cons x n ih => simp only [List.length_cons, List.replicate_succ, List.zipWith_cons_cons, Nat.xor_zero]; rw [← ih]
  have h3 : crc (4294967295 ^^^ 0) (List.zipWith (· ^^^ ·) (List.zipWith (· ^^^ ·) l m) (List.replicate l.length 0)) =
      crc 4294967295 (List.zipWith (· ^^^ ·) l m) := by
    have := (e0 4294967295 (List.zipWith (· ^^^ ·) l m)).symm
    simpa [List.length_zipWith, ← h] using this
  have hz : ∀ r, crc r (List.zipWith (· ^^^ ·) l m) = crc (r ^^^ 4294967295) l ^^^ crc 4294967295 m := by
    intro r
    have := crc_xor (r ^^^ 4294967295) 4294967295 l m h
    rwa [xor_twice] at this
  have hk : crc 4294967295 (List.zipWith (· ^^^ ·) l m) = crc 0 l ^^^ crc 4294967295 m := by simpa using hz 4294967295
  have hl0 : crc 4294967295 l = crc 0 l ^^^ crc 4294967295 (List.replicate l.length 0) := by
    have := crc_xor 0 4294967295 l (List.replicate l.length 0) (by simp)
    rw [← this, Nat.zero_xor]
    have h2 := e0 4294967295 l
    rwa [Nat.xor_zero] at h2
  simp only [Nat.zero_xor]
  rw [hk, hl0]
  apply Nat.eq_of_testBit_eq
  intro i
  simp only [Nat.testBit_xor]
  generalize (crc 0 l).testBit i = p
  generalize (crc 4294967295 m).testBit i = q
  generalize (crc 4294967295 (List.replicate l.length 0)).testBit i = t
  generalize Nat.testBit 4294967295 i = u
  cases p <;> cases q <;> cases t <;> cases u <;> rfl

/-! ### The step loses nothing -/
theorem of_xor_zero {a b : Nat} (h : a ^^^ b = 0) : a = b := by
  have e := xor_twice a b
  rw [h, Nat.zero_xor] at e
  exact e.symm
theorem stp_inj {a b : Nat} (ha : a < 4294967296) (hb : b < 4294967296) (h : stp a = stp b) : a = b := by
  have hx : stp (a ^^^ b) = 0 := by rw [stp_xor, h, Nat.xor_self]
  have hlt := xor_lt ha hb
  have h0 : a ^^^ b = 0 := by
    unfold stp at hx
    by_cases hodd : (a ^^^ b) % 2 = 1
    · rw [if_pos hodd] at hx
      have := of_xor_zero hx
      omega
    · rw [if_neg hodd, Nat.xor_zero] at hx
      omega
  exact of_xor_zero h0
theorem stpN_inj (k : Nat) {a b : Nat} (ha : a < 4294967296) (hb : b < 4294967296) (h : stpN k a = stpN k b) : a = b := by
  induction k generalizing a b with
  | zero => exact h
  | succ k ih => exact stp_inj ha hb (ih (stp_lt ha) (stp_lt hb) h)

/-! ### Bits -/
def val : List Bool → Nat
  | [] => 0
  | b :: l => b.toNat + 2 * val l
def bit (r : Nat) (b : Bool) : Nat := stp (r ^^^ b.toNat)
def crcB (r : Nat) (l : List Bool) : Nat := l.foldl bit r
/-- the bits of a byte, the lowest first -/
def bits8 (x : Nat) : List Bool := [x.testBit 0, x.testBit 1, x.testBit 2, x.testBit 3, x.testBit 4, x.testBit 5, x.testBit 6, x.testBit 7]
def bitsOf (l : List Nat) : List Bool := l.flatMap bits8

theorem toNat_xor_even (b : Bool) (v : Nat) : b.toNat ^^^ 2 * v = b.toNat + 2 * v := by
  cases b
  · simp
  · have h2 : (2 * v) ^^^ 1 = 2 * v + 1 := by
      have hd := div2_xor (2 * v) 1
      have hm := mod2_xor (2 * v) 1
      have h1 : (1 : Nat) / 2 = 0 := rfl
      rw [h1, Nat.xor_zero] at hd
      omega
    rw [Nat.xor_comm]
    simp only [Bool.toNat_true]
    omega
theorem val_lt (l : List Bool) : val l < 2 ^ l.length := by
  induction l with
  | nil => simp [val]
  | cons b l ih =>
    simp only [val, List.length_cons, Nat.pow_succ]
    cases b <;> simp <;> omega
theorem val_inj (l m : List Bool) (hl : l.length = m.length) (h : val l = val m) : l = m := by
  induction l generalizing m with
  | nil => cases m with
    | nil => rfl
    | cons y m => simp at hl
  | cons x l ih => cases m with
    | nil => simp at hl
    | cons y m =>
      simp only [val] at h
      have hxy : x = y := by cases x <;> cases y <;> simp at h ⊢ <;> omega
      subst hxy
      rw [ih m (by simpa using hl) (by omega)]
theorem stp_even (v : Nat) : stp (2 * v) = v := by
  unfold stp
  rw [if_neg (by omega), Nat.xor_zero]
  omega
/-- bits, one behind the other, are as a number at once -/
theorem crcB_val (r : Nat) (l : List Bool) : crcB r l = stpN l.length (r ^^^ val l) := by
  induction l generalizing r with
  | nil => simp [crcB, val, stpN]
  | cons b l ih =>
    have e : r ^^^ val (b :: l) = (r ^^^ b.toNat) ^^^ 2 * val l := by
      rw [val, ← toNat_xor_even, Nat.xor_assoc]
    rw [e]
    simp only [List.length_cons, stpN]
    rw [stp_xor (r ^^^ b.toNat), stp_even]
    exact ih (bit r b)
theorem val_bits8 (x : Nat) (h : x < 256) : val (bits8 x) = x := by
  have : ∀ x : Fin 256, val (bits8 x.val) = x.val := by decide +kernel
  exact this ⟨x, h⟩
theorem byt_bits (r x : Nat) (h : x < 256) : byt r x = crcB r (bits8 x) := by
  rw [crcB_val, val_bits8 x h]
  rfl
theorem crc_bits (r : Nat) (l : List Nat) (h : ∀ x ∈ l, x < 256) : crc r l = crcB r (bitsOf l) := by
  induction l generalizing r with
  | nil => rfl
  | cons x l ih =>
    have hx := byt_bits r x (h x (by simp))
    have hl := ih (byt r x) fun y hy => h y (by simp [hy])
    simp only [crc, List.foldl_cons, bitsOf, List.flatMap_cons, crcB, List.foldl_append] at *
    rw [hl, hx]
theorem crcB_append (r : Nat) (a b : List Bool) : crcB r (a ++ b) = crcB (crcB r a) b := List.foldl_append ..
theorem toNat_lt (b : Bool) : b.toNat < 4294967296 := by cases b <;> decide
theorem crcB_lt {r : Nat} (l : List Bool) (h : r < 4294967296) : crcB r l < 4294967296 := by
  induction l generalizing r with
  | nil => exact h
  | cons x l ih => exact ih (stp_lt (xor_lt h (toNat_lt x)))
theorem xor_right_inj {a b c : Nat} (h : c ^^^ a = c ^^^ b) : a = b := by
  have := congrArg (c ^^^ ·) h
  simpa [← Nat.xor_assoc, Nat.xor_self] using this
theorem xor_left_inj {a b c : Nat} (h : a ^^^ c = b ^^^ c) : a = b := by
  rw [Nat.xor_comm a, Nat.xor_comm b] at h
  exact xor_right_inj h
theorem crcB_inj {a b : Nat} (l : List Bool) (ha : a < 4294967296) (hb : b < 4294967296) (h : crcB a l = crcB b l) : a = b := by
  induction l generalizing a b with
  | nil => exact h
  | cons x l ih =>
    have := ih (stp_lt (xor_lt ha (toNat_lt x))) (stp_lt (xor_lt hb (toNat_lt x))) h
    exact xor_left_inj (stp_inj (xor_lt ha (toNat_lt x)) (xor_lt hb (toNat_lt x)) this)
/-- BURSTS: two texts of bits that part within 32 side by side end in registers that part. -/
theorem burst (r : Nat) (p w w' q : List Bool) (hr : r < 4294967296) (hl : w.length = w'.length) (h32 : w.length ≤ 32)
    (h : crcB r (p ++ (w ++ q)) = crcB r (p ++ (w' ++ q))) : w = w' := by
  simp only [crcB_append] at h
  have hR := crcB_lt p hr
  have h1 := crcB_inj q (crcB_lt w hR) (crcB_lt w' hR) h
  rw [crcB_val _ w, crcB_val _ w', ← hl] at h1
  have hv : ∀ l : List Bool, l.length ≤ 32 → val l < 4294967296 := fun l h => Nat.lt_of_lt_of_le (val_lt l) (Nat.pow_le_pow_right (by decide) h : 2 ^ l.length ≤ 2 ^ 32)
  have h2 := stpN_inj _ (xor_lt hR (hv w h32)) (xor_lt hR (hv w' (hl ▸ h32))) h1
  exact val_inj _ _ hl (xor_right_inj h2)

/-! ### Sealed texts -/
/-- the number whose bytes these are, the lowest first -/
def low : List Nat → Nat
  | [] => 0
  | x :: l => x + 256 * low l
/-- four bytes of a number -/
def le4 (s : Nat) : List Nat := [s % 256, s / 256 % 256, s / 65536 % 256, s / 16777216 % 256]
theorem low_le4 {s : Nat} (h : s < 4294967296) : low (le4 s) = s := by simp only [low, le4]; omega
def seal_ (l : List Nat) : List Nat := l ++ le4 (more 0 l)
/-- what may be opened -/
def Good (x : List Nat) : Prop := 4 ≤ x.length ∧ low (x.drop (x.length - 4)) = more 0 (x.take (x.length - 4))
theorem le4_lt (s : Nat) : ∀ x ∈ le4 s, x < 256 := by
  intro x hx
  simp only [le4, List.mem_cons, List.not_mem_nil, or_false] at hx
  omega
theorem seal_lt {l : List Nat} (hl : ∀ x ∈ l, x < 256) : ∀ x ∈ seal_ l, x < 256 := by
  intro x hx
  rcases List.mem_append.1 hx with h | h
  · exact hl x h
  · exact le4_lt _ x h
theorem seal_length (l : List Nat) : (seal_ l).length = l.length + 4 := by simp [seal_, le4]
theorem seal_take (l : List Nat) : (seal_ l).take ((seal_ l).length - 4) = l := by
  rw [seal_length]; simp [seal_]
theorem seal_drop (l : List Nat) : (seal_ l).drop ((seal_ l).length - 4) = le4 (more 0 l) := by
  rw [seal_length]; simp [seal_]
theorem seal_good {l : List Nat} (hl : ∀ x ∈ l, x < 256) : Good (seal_ l) :=
  ⟨by rw [seal_length]; omega, by rw [seal_take, seal_drop, low_le4 (more_lt (by decide) hl)]⟩
theorem val_append (a b : List Bool) : val (a ++ b) = val a + 2 ^ a.length * val b := by
  induction a with
  | nil => simp [val]
  | cons x a ih =>
    simp only [List.cons_append, val, ih, List.length_cons, Nat.pow_succ]
    rw [Nat.mul_add, ← Nat.mul_assoc 2 (2 ^ a.length), Nat.mul_comm 2 (2 ^ a.length)]
    omega
theorem bitsOf_length (l : List Nat) : (bitsOf l).length = 8 * l.length := by
  induction l with
  | nil => rfl
  | cons x l ih =>
    simp only [bitsOf, List.flatMap_cons, List.length_append, List.length_cons] at ih ⊢
    rw [ih]
    simp [bits8]
    omega
theorem val_bitsOf (l : List Nat) (h : ∀ x ∈ l, x < 256) : val (bitsOf l) = low l := by
  induction l with
  | nil => rfl
  | cons x l ih =>
    have h1 := ih fun y hy => h y (by simp [hy])
    simp only [bitsOf, List.flatMap_cons, low] at h1 ⊢
    rw [val_append, val_bits8 x (h x (by simp)), h1]
    simp [bits8]
/-- the register behind a text that may be opened: one and the same for all of them -/
theorem good_end {x : List Nat} (h : ∀ y ∈ x, y < 256) (hg : Good x) : crcB 4294967295 (bitsOf x) = stpN 32 4294967295 := by
  obtain ⟨h4, hlow⟩ := hg
  have e : x = x.take (x.length - 4) ++ x.drop (x.length - 4) := (List.take_append_drop _ _).symm
  have ht : ∀ y ∈ x.take (x.length - 4), y < 256 := fun y hy => h y (List.mem_of_mem_take hy)
  have hd : ∀ y ∈ x.drop (x.length - 4), y < 256 := fun y hy => h y (List.mem_of_mem_drop hy)
  have hb : bitsOf x = bitsOf (x.take (x.length - 4)) ++ bitsOf (x.drop (x.length - 4)) := by
    conv => lhs; rw [e]
    simp only [bitsOf, List.flatMap_append]
  rw [hb, crcB_append, ← crc_bits _ _ ht, crcB_val, val_bitsOf _ hd, bitsOf_length, hlow]
  have hl : 8 * (x.drop (x.length - 4)).length = 32 := by simp; omega
  rw [hl]
  congr 1
  unfold more
  rw [Nat.zero_xor, ← Nat.xor_assoc, Nat.xor_self, Nat.zero_xor]
/-- P1.5: two texts of one length that both may be opened part nowhere, where they part within 32 bits alone -/
theorem good_burst {x y : List Nat} (hx : ∀ z ∈ x, z < 256) (hy : ∀ z ∈ y, z < 256) (gx : Good x) (gy : Good y) (a k : Nat) (hk : k ≤ 32)
    (ht : (bitsOf x).take a = (bitsOf y).take a) (hd : (bitsOf x).drop (a + k) = (bitsOf y).drop (a + k)) (hl : x.length = y.length) :
    bitsOf x = bitsOf y := by
  have e : ∀ l : List Bool, l = l.take a ++ ((l.drop a).take k ++ l.drop (a + k)) := fun l => by
    rw [← List.drop_drop, List.take_append_drop, List.take_append_drop]
  have h1 := good_end hx gx
  have h2 := good_end hy gy
  rw [e (bitsOf x)] at h1
  rw [e (bitsOf y), ← ht, ← hd] at h2
  have hlen : (((bitsOf x).drop a).take k).length = (((bitsOf y).drop a).take k).length := by simp [bitsOf_length, hl]
  have := burst 4294967295 _ _ _ _ (by decide) hlen (by simp; omega) (h1.trans h2.symm)
  rw [e (bitsOf x), e (bitsOf y), this, ht, hd]
theorem bits8_inj {x y : Nat} (hx : x < 256) (hy : y < 256) (h : bits8 x = bits8 y) : x = y := by
  rw [← val_bits8 x hx, ← val_bits8 y hy, h]
theorem bitsOf_inj {x y : List Nat} (hx : ∀ z ∈ x, z < 256) (hy : ∀ z ∈ y, z < 256) (hl : x.length = y.length) (h : bitsOf x = bitsOf y) : x = y := by
  induction x generalizing y with
  | nil => cases y with
    | nil => rfl
    | cons b y => simp at hl
  | cons a x ih => cases y with
    | nil => simp at hl
    | cons b y =>
      simp only [bitsOf, List.flatMap_cons] at h ih
      obtain ⟨h1, h2⟩ := List.append_inj h (by simp [bits8])
      rw [bits8_inj (hx a (by simp)) (hy b (by simp)) h1, ih (fun z hz => hx z (by simp [hz])) (fun z hz => hy z (by simp [hz])) (by simpa using hl) h2]

end Go.Proofs.Ytajmpoanmdgmpaa.Crc
