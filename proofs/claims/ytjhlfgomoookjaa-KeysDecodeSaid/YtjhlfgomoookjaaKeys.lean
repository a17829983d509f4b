/-
  THE PLAIN MATHEMATICS OF STAGE 4: a row's key, what is cut off a key, the order of keys. No program.
-/
import Derived.Test.YtjhlfgomoookjaaMath
namespace Go.Proofs.Ytjhlfgomoookjaa

/-- a string's bytes, and the string of bytes -/
def sb (s : ByteArray) : List Nat := s.data.toList.map UInt8.toNat
def bs (l : List Nat) : ByteArray := ⟨(l.map UInt8.ofNat).toArray⟩
theorem sb_lt (s : ByteArray) : ∀ x ∈ sb s, x < 256 := by
  intro x hx
  simp only [sb, List.mem_map] at hx
  obtain ⟨u, _, rfl⟩ := hx
  exact u.toNat_lt
theorem sb_len (s : ByteArray) : (sb s).length = s.size := by simp [sb]
theorem bs_size (l : List Nat) : (bs l).size = l.length := by
  show (l.map UInt8.ofNat).toArray.size = _
  simp
theorem sb_bs (l : List Nat) (h : ∀ x ∈ l, x < 256) : sb (bs l) = l := by
  simp only [sb, bs, List.map_map]
  rw [List.map_congr_left (g := id)]
  · simp
  · intro x hx
    have := h x hx
    simp [Nat.mod_eq_of_lt this]
theorem bs_sb (s : ByteArray) : bs (sb s) = s := by
  obtain ⟨⟨a⟩⟩ := s
  simp only [sb, bs, List.map_map]
  congr 2
  rw [List.map_congr_left (g := id)]
  · simp
  · intro x _
    simp
theorem bs_inj {l m : List Nat} (hl : ∀ x ∈ l, x < 256) (hm : ∀ x ∈ m, x < 256) (h : bs l = bs m) : l = m := by
  rw [← sb_bs l hl, h, sb_bs m hm]
theorem bs_toList (l : List Nat) : (bs l).toList = l.map UInt8.ofNat := by rw [ByteArray.toList_eq]; rfl

/-- a text's bytes in a key -/
def tx : List Nat → List Nat
  | [] => []
  | x :: l => if x = 0 then 0 :: 255 :: tx l else x :: tx l
/-- the lowest k bytes of a number, the highest first -/
def be : Nat → Nat → List Nat
  | 0, _ => []
  | k + 1, m => (m / 256 ^ k % 256) :: be k m
/-- a value's bytes -/
def one (v : V) : List Nat :=
  if v.k = 0 then [1] else if v.k = 3 then [2 + v.n.toNat] else if v.k = 1 then 4 :: be 8 (v.n + 9223372036854775808).toNat else 5 :: (tx (sb v.s) ++ [0, 1])
/-- a row's key -/
def key : List V → List Nat
  | [] => []
  | v :: r => one v ++ key r

theorem tx_lt : ∀ (l : List Nat), (∀ x ∈ l, x < 256) → ∀ x ∈ tx l, x < 256
  | [], _ => by simp [tx]
  | y :: l, h => by
    intro x hx
    have hl := tx_lt l (fun z hz => h z (by simp [hz])) x
    have hy := h y (by simp)
    simp only [tx] at hx
    split at hx
    · simp only [List.mem_cons] at hx
      rcases hx with rfl | rfl | hx
      · omega
      · omega
      · exact hl hx
    · simp only [List.mem_cons] at hx
      rcases hx with rfl | hx
      · exact hy
      · exact hl hx
theorem tx_len : ∀ (l : List Nat), (tx l).length ≤ 2 * l.length
  | [] => by simp [tx]
  | y :: l => by
    have := tx_len l
    simp only [tx]
    split <;> simp <;> omega
theorem tx_append (l m : List Nat) : tx (l ++ m) = tx l ++ tx m := by
  induction l with
  | nil => rfl
  | cons y l ih =>
    simp only [List.cons_append, tx]
    split <;> simp [ih]
theorem be_len (k m : Nat) : (be k m).length = k := by
  induction k with
  | zero => rfl
  | succ k ih => simp [be, ih]
theorem be_lt (k m : Nat) : ∀ x ∈ be k m, x < 256 := by
  induction k with
  | zero => simp [be]
  | succ k ih =>
    intro x hx
    simp only [be, List.mem_cons] at hx
    rcases hx with rfl | hx
    · exact Nat.mod_lt _ (by omega)
    · exact ih x hx
theorem be_mod (k m j : Nat) (h : k ≤ j) : be k (m % 256 ^ j) = be k m := by
  induction k with
  | zero => rfl
  | succ k ih =>
    simp only [be]
    rw [ih (by omega)]
    congr 1
    have : (256 : Nat) ^ j = 256 ^ k * (256 * 256 ^ (j - k - 1)) := by
      rw [← Nat.pow_succ', ← Nat.pow_add]
      congr 1
      omega
    rw [this, Nat.mod_mul_right_div_self, Nat.mod_mul_right_mod]
/-- the number of bytes, the highest first -/
def val : List Nat → Nat := fun l => l.foldl (fun n x => n * 256 + x) 0
theorem foldl_val (l : List Nat) (a : Nat) : l.foldl (fun n x => n * 256 + x) a = a * 256 ^ l.length + val l := by
  induction l generalizing a with
  | nil => simp [val]
  | cons x l ih =>
    simp only [List.foldl_cons, List.length_cons, val]
    rw [ih, ih (0 * 256 + x)]
    rw [Nat.pow_succ]
    simp only [Nat.zero_mul, Nat.zero_add, Nat.add_mul]
    rw [Nat.mul_assoc, Nat.mul_comm 256, Nat.add_assoc]
theorem val_cons (x : Nat) (l : List Nat) : val (x :: l) = x * 256 ^ l.length + val l := by
  show (x :: l).foldl _ 0 = _
  rw [List.foldl_cons, foldl_val]
  simp
theorem val_snoc (l : List Nat) (x : Nat) : val (l ++ [x]) = val l * 256 + x := by simp [val]
theorem val_lt (l : List Nat) (h : ∀ x ∈ l, x < 256) : val l < 256 ^ l.length := by
  induction l with
  | nil => simp [val]
  | cons x l ih =>
    rw [val_cons]
    have h1 := ih fun y hy => h y (by simp [hy])
    have h2 := h x (by simp)
    rw [List.length_cons, Nat.pow_succ']
    have : x * 256 ^ l.length ≤ 255 * 256 ^ l.length := Nat.mul_le_mul_right _ (by omega)
    omega
theorem val_be (k m : Nat) : val (be k m) = m % 256 ^ k := by
  induction k with
  | zero => simp [be, val, Nat.mod_one]
  | succ k ih =>
    rw [be, val_cons, be_len, ih]
    rw [Nat.pow_succ, Nat.mod_mul]
    rw [Nat.mul_comm]
    omega
theorem be_val (l : List Nat) (h : ∀ x ∈ l, x < 256) : be l.length (val l) = l := by
  induction l with
  | nil => rfl
  | cons x l ih =>
    have hl := fun y hy => h y (List.mem_cons_of_mem x hy)
    have h1 := val_lt l hl
    have h2 := h x (by simp)
    rw [List.length_cons, be, val_cons]
    have e1 : (x * 256 ^ l.length + val l) / 256 ^ l.length = x := by
      rw [Nat.mul_comm, Nat.mul_add_div (Nat.pos_of_ne_zero (by simp)), Nat.div_eq_of_lt h1]
      omega
    rw [e1, Nat.mod_eq_of_lt h2]
    congr 1
    rw [← be_mod l.length _ l.length (Nat.le_refl _)]
    rw [Nat.mul_comm, Nat.mul_add_mod, Nat.mod_eq_of_lt h1]
    exact ih hl

theorem one_lt (v : V) (hk : v.may = true) : ∀ x ∈ one v, x < 256 := by
  obtain ⟨k, n, s⟩ := v
  intro x hx
  have hm : may k n s = true := hk
  simp only [one] at hx
  split at hx
  · simp at hx; omega
  · split at hx
    · rename_i h3
      subst h3
      simp [may] at hm
      simp at hx
      omega
    · split at hx
      · simp only [List.mem_cons] at hx
        rcases hx with rfl | hx
        · omega
        · exact be_lt _ _ _ hx
      · simp only [List.mem_cons, List.mem_append] at hx
        rcases hx with rfl | hx | hx
        · omega
        · exact tx_lt _ (sb_lt s) _ hx
        · simp at hx; omega
theorem key_lt : ∀ (r : List V), r.all V.may = true → ∀ x ∈ key r, x < 256
  | [], _ => by simp [key]
  | v :: r, h => by
    simp only [List.all_cons, Bool.and_eq_true] at h
    intro x hx
    simp only [key, List.mem_append] at hx
    rcases hx with hx | hx
    · exact one_lt v h.1 x hx
    · exact key_lt r h.2 x hx
theorem one_len (v : V) (hk : v.may = true) : (one v).length ≤ 131 ∧ 0 < (one v).length := by
  obtain ⟨k, n, s⟩ := v
  have hm : may k n s = true := hk
  simp only [one]
  split
  · simp
  · split
    · simp
    · split
      · simp [be_len]
      · rename_i h0 h3 h1
        have hkk := may_kind hm
        obtain rfl : k = 2 := by omega
        simp [may] at hm
        have := tx_len (sb s)
        rw [sb_len] at this
        simp
        omega
theorem key_append (r q : List V) : key (r ++ q) = key r ++ key q := by
  induction r with
  | nil => rfl
  | cons v r ih => simp [key, ih]
theorem key_len : ∀ (r : List V), r.all V.may = true → (key r).length ≤ 131 * r.length
  | [], _ => by simp [key]
  | v :: r, h => by
    simp only [List.all_cons, Bool.and_eq_true] at h
    have := key_len r h.2
    have := one_len v h.1
    simp [key]
    omega

/-! ### What a key is cut into -/
/-- a text and its end; none: no text -/
def unT : List Nat → Option (List Nat × List Nat)
  | [] => none
  | [_] => none
  | x :: y :: l => if x = 0 then (if y = 1 then some ([], l) else if y = 255 then (unT l).map fun p => (0 :: p.1, p.2) else none) else (unT (y :: l)).map fun p => (x :: p.1, p.2)
/-- the value with which bytes begin, and what is left -/
def un1 : List Nat → Option (V × List Nat)
  | [] => none
  | m :: l => if m = 1 then some (⟨0, 0, ⟨#[]⟩⟩, l) else if m = 2 ∨ m = 3 then some (⟨3, m - 2, ⟨#[]⟩⟩, l)
    else if m = 4 then (if 8 ≤ l.length then some (⟨1, (val (l.take 8) : Int) - 9223372036854775808, ⟨#[]⟩⟩, l.drop 8) else none)
    else if m = 5 then (unT l).map fun p => (⟨2, 0, bs p.1⟩, p.2) else none
/-- the same, where the value may be -/
def un2 (l : List Nat) : Option (V × List Nat) := match un1 l with | some (v, r) => if v.may then some (v, r) else none | none => none

theorem unT_tx (s r : List Nat) : unT (tx s ++ 0 :: 1 :: r) = some (s, r) := by
  induction s with
  | nil => simp [tx, unT]
  | cons x s ih =>
    simp only [tx]
    by_cases hx : x = 0
    · subst hx
      simp [unT, ih]
    · rw [if_neg hx]
      cases hs : tx s with
      | nil =>
        rw [hs] at ih
        simp [unT] at ih
        subst ih
        simp [unT, hx]
      | cons y t =>
        rw [hs] at ih
        simp only [List.cons_append] at ih
        simp only [List.cons_append, unT, if_neg hx]
        rw [ih]
        rfl
theorem tx_unT (l s r : List Nat) (h : unT l = some (s, r)) : l = tx s ++ 0 :: 1 :: r := by
  induction l using unT.induct generalizing s r with
  | case1 => simp [unT] at h
  | case2 => simp [unT] at h
  | case3 l =>
    simp [unT] at h
    obtain ⟨rfl, rfl⟩ := h
    rfl
  | case4 l _ ih =>
    simp [unT] at h
    obtain ⟨a, h, rfl⟩ := h
    rw [ih _ _ h]
    simp [tx]
  | case5 y l h1 h2 => simp [unT, h1, h2] at h
  | case6 x y l hx ih =>
    simp only [unT, if_neg hx, Option.map_eq_some_iff, Prod.mk.injEq, Prod.exists] at h
    obtain ⟨a, b, h, rfl, rfl⟩ := h
    rw [ih _ _ h]
    simp [tx, hx]
theorem unT_len {l s r : List Nat} (h : unT l = some (s, r)) : r.length + s.length + 2 ≤ l.length := by
  rw [tx_unT l s r h]
  have : s.length ≤ (tx s).length := by
    clear h
    induction s with
    | nil => simp
    | cons x s ih => simp only [tx]; split <;> simp <;> omega
  simp
  omega
theorem In_n {n : Int} (h1 : -9223372036854775808 ≤ n) (h2 : n ≤ 9223372036854775807) : ((n + 9223372036854775808).toNat : Int) = n + 9223372036854775808 ∧ (n + 9223372036854775808).toNat < 256 ^ 8 := by
  have : (256 : Nat) ^ 8 = 18446744073709551616 := by decide
  omega
/-- a value's number is one of 64 bits -/
def N64 (v : V) : Prop := -9223372036854775808 ≤ v.n ∧ v.n ≤ 9223372036854775807
theorem un1_one (v : V) (h0 : v.may = true) (hn : N64 v) (r : List Nat) : un1 (one v ++ r) = some (v, r) := by
  obtain ⟨k, n, s⟩ := v
  obtain ⟨hn1, hn2⟩ := hn
  simp only at hn1 hn2
  replace h0 : may k n s = true := h0
  have hk := may_kind h0
  have hk4 : k = 0 ∨ k = 1 ∨ k = 2 ∨ k = 3 := by omega
  rcases hk4 with rfl | rfl | rfl | rfl
  · simp [may, seq_eq] at h0
    obtain ⟨rfl, rfl⟩ := h0
    simp [one, un1]
  · simp [may, seq_eq] at h0
    subst h0
    obtain ⟨e1, e2⟩ := In_n hn1 hn2
    have e3 : (be 8 (n + 9223372036854775808).toNat).length = 8 := be_len _ _
    have e4 : val (be 8 (n + 9223372036854775808).toNat) = (n + 9223372036854775808).toNat := by rw [val_be, Nat.mod_eq_of_lt e2]
    generalize hg : be 8 (n + 9223372036854775808).toNat = g at *
    have e5 : (g ++ r).take 8 = g := by rw [List.take_append_of_le_length (by omega), List.take_of_length_le (by omega)]
    have e6 : (g ++ r).drop 8 = r := by rw [List.drop_append_of_le_length (by omega), List.drop_of_length_le (by omega)]; rfl
    have e7 : un1 (4 :: (g ++ r)) = some (⟨1, (val ((g ++ r).take 8) : Int) - 9223372036854775808, ⟨#[]⟩⟩, (g ++ r).drop 8) := by
      simp only [un1]
      rw [if_neg (by omega), if_neg (by omega), if_pos trivial, if_pos (by simp; omega)]
    have e8 : one ⟨1, n, ⟨#[]⟩⟩ = 4 :: g := by simp [one, hg]
    rw [e8, List.cons_append, e7, e5, e6, e4, e1]
    congr 3
    omega
  · simp [may] at h0
    obtain ⟨rfl, hs⟩ := h0
    simp [one, un1, unT_tx, bs_sb]
  · simp [may, seq_eq] at h0
    obtain ⟨rfl, h0⟩ := h0
    rcases h0 with rfl | rfl
    · simp [one, un1]
    · simp [one, un1]
theorem one_un1 (l r : List Nat) (v : V) (hl : ∀ x ∈ l, x < 256) (h : un1 l = some (v, r)) : l = one v ++ r ∧ N64 v := by
  cases l with
  | nil => simp [un1] at h
  | cons m l =>
    simp only [un1] at h
    split at h
    · rename_i hm
      simp at h
      obtain ⟨rfl, rfl⟩ := h
      subst hm
      simp [one, N64]
    · split at h
      · rename_i hm
        simp at h
        obtain ⟨rfl, rfl⟩ := h
        rcases hm with rfl | rfl
        · simp [one, N64]
        · simp [one, N64]
      · split at h
        · rename_i hm
          split at h
          · rename_i h8
            simp at h
            obtain ⟨rfl, rfl⟩ := h
            subst hm
            have hl8 : ∀ x ∈ l.take 8, x < 256 := fun x hx => hl x (by simp [List.mem_of_mem_take hx])
            have hlen : (l.take 8).length = 8 := by simp; omega
            have hv := val_lt _ hl8
            have hb := be_val _ hl8
            rw [hlen] at hv hb
            have : (256 : Nat) ^ 8 = 18446744073709551616 := by decide
            refine ⟨?_, by simp only; omega, by simp only; omega⟩
            simp only [one]
            simp [hb]
          · cases h
        · split at h
          · rename_i hm
            simp at h
            obtain ⟨a, h, rfl⟩ := h
            subst hm
            have ht := tx_unT _ _ _ h
            have ha : ∀ x ∈ a, x < 256 := by
              intro x hx
              have hmem : x ∈ tx a := by
                clear ht h hl
                induction a with
                | nil => simp at hx
                | cons y a ih =>
                  simp only [List.mem_cons] at hx
                  simp only [tx]
                  rcases hx with rfl | hx
                  · split
                    · rename_i h0; simp [h0]
                    · simp
                  · have := ih hx
                    split <;> simp [this]
              exact hl x (by rw [ht]; simp [hmem])
            constructor
            · simp [one, sb_bs a ha, ht]
            · simp [N64]
          · cases h
theorem un2_one (v : V) (hm : v.may = true) (hn : N64 v) (r : List Nat) : un2 (one v ++ r) = some (v, r) := by simp [un2, un1_one v hm hn, hm]
theorem one_un2 {l r : List Nat} {v : V} (hl : ∀ x ∈ l, x < 256) (h : un2 l = some (v, r)) : l = one v ++ r ∧ v.may = true ∧ N64 v := by
  unfold un2 at h
  split at h
  · rename_i v' r' h1
    split at h
    · rename_i hm
      simp at h
      obtain ⟨rfl, rfl⟩ := h
      obtain ⟨e, hn⟩ := one_un1 l _ _ hl h1
      exact ⟨e, hm, hn⟩
    · cases h
  · cases h
theorem un1_len {l r : List Nat} {v : V} (h : un1 l = some (v, r)) : r.length < l.length := by
  cases l with
  | nil => simp [un1] at h
  | cons m l =>
    simp only [un1] at h
    split at h
    · simp at h; rw [← h.2]; simp
    · split at h
      · simp at h; rw [← h.2]; simp
      · split at h
        · split at h
          · simp at h; rw [← h.2]; simp; omega
          · cases h
        · split at h
          · simp at h
            obtain ⟨a, h, _⟩ := h
            have := unT_len h
            simp; omega
          · cases h
theorem un2_len {l r : List Nat} {v : V} (h : un2 l = some (v, r)) : r.length < l.length := by
  unfold un2 at h
  split at h
  · rename_i v' r' h1
    split at h
    · simp at h; obtain ⟨rfl, rfl⟩ := h; exact un1_len h1
    · cases h
  · cases h
/-- the row whose key it is, however long -/
def unK (l : List Nat) : Option (List V) :=
  if l = [] then some [] else match _h : un2 l with
    | some (v, r) => (unK r).map (v :: ·)
    | none => none
termination_by l.length
decreasing_by exact un2_len _h
theorem unK_nil : unK [] = some [] := by rw [unK]; simp
theorem unK_none {l : List Nat} (hl : l ≠ []) (h : un2 l = none) : unK l = none := by
  rw [unK, if_neg hl]
  split
  · rename_i v r h'; rw [h] at h'; cases h'
  · rfl
theorem unK_some {l r : List Nat} {v : V} (h : un2 l = some (v, r)) : unK l = (unK r).map (v :: ·) := by
  have hl : l ≠ [] := by rintro rfl; simp [un2, un1] at h
  rw [unK, if_neg hl]
  split
  · rename_i v' r' h'; rw [h] at h'; injection h' with h'; injection h' with e1 e2; subst e1 e2; rfl
  · rename_i h'; rw [h] at h'; cases h'
theorem unK_key (r : List V) (hm : r.all V.may = true) (hn : ∀ v ∈ r, N64 v) : unK (key r) = some r := by
  induction r with
  | nil => exact unK_nil
  | cons v r ih =>
    simp only [List.all_cons, Bool.and_eq_true] at hm
    rw [key, unK_some (un2_one v hm.1 (hn v (by simp)) _), ih hm.2 fun u hu => hn u (by simp [hu])]
    rfl
theorem key_unK (n : Nat) (l : List Nat) (hn : l.length ≤ n) (hl : ∀ x ∈ l, x < 256) (r : List V) (h : unK l = some r) : key r = l ∧ r.all V.may = true ∧ ∀ v ∈ r, N64 v := by
  induction n generalizing l r with
  | zero =>
    obtain rfl : l = [] := List.eq_nil_of_length_eq_zero (by omega)
    rw [unK_nil] at h
    cases h
    simp [key]
  | succ n ih =>
    by_cases h0 : l = []
    · subst h0
      rw [unK_nil] at h
      cases h
      simp [key]
    · cases hu : un2 l with
      | none => rw [unK_none h0 hu] at h; cases h
      | some p =>
        obtain ⟨v, l'⟩ := p
        rw [unK_some hu] at h
        simp at h
        obtain ⟨q, hq, rfl⟩ := h
        obtain ⟨e, hm, hN⟩ := one_un2 hl hu
        have hlen := un2_len hu
        obtain ⟨i1, i2, i3⟩ := ih l' (by omega) (fun x hx => hl x (by rw [e]; simp [hx])) q hq
        refine ⟨by rw [key, i1, ← e], by simp [hm, i2], ?_⟩
        intro u hu
        simp only [List.mem_cons] at hu
        rcases hu with rfl | hu
        · exact hN
        · exact i3 u hu

/-! ### The order of keys -/
def lx : List Nat → List Nat → Int
  | [], [] => 0
  | [], _ :: _ => -1
  | _ :: _, [] => 1
  | a :: x, b :: y => if a < b then -1 else if b < a then 1 else lx x y
theorem cmpL_lx (l m : List UInt8) : cmpL l m = lx (l.map UInt8.toNat) (m.map UInt8.toNat) := by
  induction l generalizing m with
  | nil => cases m <;> rfl
  | cons a x ih =>
    cases m with
    | nil => rfl
    | cons b y =>
      simp only [cmpL, List.map_cons, lx, UInt8.lt_iff_toNat_lt, ih]
theorem cmpS_sb (a b : ByteArray) : cmpS a b = lx (sb a) (sb b) := by
  unfold cmpS sb
  rw [ByteArray.toList_eq, ByteArray.toList_eq, cmpL_lx]
theorem lx_self (l : List Nat) : lx l l = 0 := by
  induction l with
  | nil => rfl
  | cons a x ih => simp [lx, ih]
theorem lx_app (p x y : List Nat) : lx (p ++ x) (p ++ y) = lx x y := by
  induction p with
  | nil => rfl
  | cons a p ih => simp [lx, ih]
/-- numbers by their bytes -/
theorem lx_be (k m n : Nat) (x y : List Nat) (h : m % 256 ^ k ≠ n % 256 ^ k) : lx (be k m ++ x) (be k n ++ y) = if m % 256 ^ k < n % 256 ^ k then -1 else 1 := by
  induction k generalizing m n with
  | zero => simp [Nat.mod_one] at h
  | succ k ih =>
    simp only [be, List.cons_append, lx]
    have em := Nat.mod_mul (x := m) (a := 256 ^ k) (b := 256)
    have en := Nat.mod_mul (x := n) (a := 256 ^ k) (b := 256)
    have hm : m % 256 ^ k < 256 ^ k := Nat.mod_lt _ (Nat.pos_of_ne_zero (by simp))
    have hn : n % 256 ^ k < 256 ^ k := Nat.mod_lt _ (Nat.pos_of_ne_zero (by simp))
    have p1 : 256 ^ (k + 1) = 256 ^ k * 256 := Nat.pow_succ ..
    rw [← p1] at em en
    clear p1
    generalize m / 256 ^ k % 256 = a at *
    generalize n / 256 ^ k % 256 = b at *
    by_cases h1 : a < b
    · have : 256 ^ k * (a + 1) ≤ 256 ^ k * b := Nat.mul_le_mul_left _ h1
      rw [Nat.mul_add] at this
      rw [if_pos h1, if_pos (by omega)]
    · by_cases h2 : b < a
      · have : 256 ^ k * (b + 1) ≤ 256 ^ k * a := Nat.mul_le_mul_left _ h2
        rw [Nat.mul_add] at this
        rw [if_neg h1, if_pos h2, if_neg (by omega)]
      · obtain rfl : a = b := by omega
        rw [if_neg h1, if_neg h2, ih m n (by omega)]
        by_cases h3 : m % 256 ^ k < n % 256 ^ k
        · rw [if_pos h3, if_pos (by omega)]
        · rw [if_neg h3, if_neg (by omega)]
/-- texts by their bytes in a key -/
theorem lx_tx (s t x y : List Nat) (h : lx s t ≠ 0) : lx (tx s ++ 0 :: 1 :: x) (tx t ++ 0 :: 1 :: y) = lx s t := by
  induction s generalizing t with
  | nil =>
    cases t with
    | nil => exact absurd rfl h
    | cons b t =>
      simp only [tx]
      by_cases hb : b = 0
      · subst hb; simp [lx]
      · simp [hb, lx, show 0 < b by omega]
  | cons a s ih =>
    cases t with
    | nil =>
      simp only [tx]
      by_cases ha : a = 0
      · subst ha; simp [lx]
      · simp [ha, lx, show 0 < a by omega]
    | cons b t =>
      simp only [tx, lx] at h ⊢
      by_cases h1 : a < b
      · by_cases ha : a = 0
        · subst ha
          have hb : b ≠ 0 := by omega
          simp [hb, lx, h1]
        · have hb : b ≠ 0 := by omega
          simp [ha, hb, lx, h1]
      · by_cases h2 : b < a
        · have ha : a ≠ 0 := by omega
          by_cases hb : b = 0
          · subst hb
            simp [ha, lx, h2]
          · simp [ha, hb, lx, h1, h2]
        · obtain rfl : a = b := by omega
          simp only [h1, if_false] at h ⊢
          by_cases ha : a = 0
          · subst ha
            simp [lx, ih t h]
          · simp [ha, lx, ih t h]
theorem one_order (a b : V) (ha : a.may = true) (hb : b.may = true) (na : N64 a) (nb : N64 b) (h : ord a b ≠ 0) (x y : List Nat) : lx (one a ++ x) (one b ++ y) = ord a b := by
  obtain ⟨k, n, s⟩ := a
  obtain ⟨k', n', s'⟩ := b
  replace ha : may k n s = true := ha
  replace hb : may k' n' s' = true := hb
  obtain ⟨na1, na2⟩ := na
  obtain ⟨nb1, nb2⟩ := nb
  simp only at na1 na2 nb1 nb2
  have hk := may_kind ha
  have hk' := may_kind hb
  have e1 : k = 0 ∨ k = 1 ∨ k = 2 ∨ k = 3 := by omega
  have e2 : k' = 0 ∨ k' = 1 ∨ k' = 2 ∨ k' = 3 := by omega
  have Z : ∀ q : Int, Lib.compareInt q q = 0 := fun q => (cmpI_zero q q).2 rfl
  clear hk hk'
  unfold ord at h ⊢
  rcases e1 with rfl | rfl | rfl | rfl <;> rcases e2 with rfl | rfl | rfl | rfl
  · simp [may, seq_eq] at ha hb
    obtain ⟨rfl, rfl⟩ := ha
    obtain ⟨rfl, rfl⟩ := hb
    simp [firstOf, Z, (cmpS_zero _ _).2 rfl] at h
  · simp [one, lx, firstOf, place, Lib.compareInt]
  · simp [one, lx, firstOf, place, Lib.compareInt]
  · simp [one, lx, firstOf, place, Lib.compareInt]; omega
  · simp [one, lx, firstOf, place, Lib.compareInt]
  · simp [may, seq_eq] at ha hb
    subst ha hb
    have hz := (cmpS_zero ⟨#[]⟩ ⟨#[]⟩).2 rfl
    have hne : Lib.compareInt n n' ≠ 0 := by
      intro e
      exact h (by simp only [firstOf, Z, if_true, e, hz])
    obtain ⟨c1, c2⟩ := In_n na1 na2
    obtain ⟨c3, c4⟩ := In_n nb1 nb2
    have hnn : n ≠ n' := fun e => hne ((cmpI_zero n n').2 e)
    have hm : (n + 9223372036854775808).toNat % 256 ^ 8 ≠ (n' + 9223372036854775808).toNat % 256 ^ 8 := by
      rw [Nat.mod_eq_of_lt c2, Nat.mod_eq_of_lt c4]; omega
    have hl := lx_be 8 _ _ x y hm
    rw [Nat.mod_eq_of_lt c2, Nat.mod_eq_of_lt c4] at hl
    have ho : one ⟨1, n, ⟨#[]⟩⟩ = 4 :: be 8 (n + 9223372036854775808).toNat := rfl
    have ho' : one ⟨1, n', ⟨#[]⟩⟩ = 4 :: be 8 (n' + 9223372036854775808).toNat := rfl
    rw [ho, ho', List.cons_append, List.cons_append]
    simp only [lx, Nat.lt_irrefl, if_false, hl, firstOf, Z, if_true, if_neg hne]
    unfold Lib.compareInt
    by_cases hlt : n < n'
    · rw [if_pos hlt, if_pos (by omega)]
    · rw [if_neg hlt, if_neg (by omega), if_pos (by omega)]
  · simp [one, lx, firstOf, place, Lib.compareInt]
  · simp [may, seq_eq] at hb
    simp [one, lx, firstOf, place, Lib.compareInt]
    rcases hb.2 with rfl | rfl <;> simp
  · simp [one, lx, firstOf, place, Lib.compareInt]
  · simp [one, lx, firstOf, place, Lib.compareInt]
  · simp [may] at ha hb
    obtain ⟨rfl, _⟩ := ha
    obtain ⟨rfl, _⟩ := hb
    have hne : lx (sb s) (sb s') ≠ 0 := by
      intro e
      exact h (by simp only [firstOf, Z, if_true, cmpS_sb, e])
    have hl := lx_tx (sb s) (sb s') x y hne
    have ho : one ⟨2, 0, s⟩ = 5 :: (tx (sb s) ++ [0, 1]) := rfl
    have ho' : one ⟨2, 0, s'⟩ = 5 :: (tx (sb s') ++ [0, 1]) := rfl
    rw [ho, ho', List.cons_append, List.cons_append, List.append_assoc, List.append_assoc]
    simp only [lx, Nat.lt_irrefl, if_false, firstOf, Z, if_true, cmpS_sb]
    exact hl
  · simp [may, seq_eq] at hb
    simp [one, lx, firstOf, place, Lib.compareInt]
    rcases hb.2 with rfl | rfl <;> simp
  · simp [may, seq_eq] at ha
    simp [one, lx, firstOf, place, Lib.compareInt]; omega
  · simp [may, seq_eq] at ha
    simp [one, lx, firstOf, place, Lib.compareInt]
    rcases ha.2 with rfl | rfl <;> simp
  · simp [may, seq_eq] at ha
    simp [one, lx, firstOf, place, Lib.compareInt]
    rcases ha.2 with rfl | rfl <;> simp
  · simp [may, seq_eq] at ha hb
    obtain ⟨rfl, ha⟩ := ha
    obtain ⟨rfl, hb⟩ := hb
    rcases ha with rfl | rfl <;> rcases hb with rfl | rfl
    · simp [firstOf, Z, (cmpS_zero _ _).2 rfl] at h
    · simp [one, lx, firstOf, place, Lib.compareInt]
    · simp [one, lx, firstOf, place, Lib.compareInt]
    · simp [firstOf, Z, (cmpS_zero _ _).2 rfl] at h
/-- the order of rows -/
def ordR : List V → List V → Int
  | [], [] => 0
  | [], _ :: _ => -1
  | _ :: _, [] => 1
  | a :: x, b :: y => if ord a b = 0 then ordR x y else ord a b
theorem one_pos (v : V) : ∃ m l, one v = m :: l := by
  unfold one
  split
  · exact ⟨_, _, rfl⟩
  · split
    · exact ⟨_, _, rfl⟩
    · split
      · exact ⟨_, _, rfl⟩
      · exact ⟨_, _, rfl⟩
theorem key_order (a b : List V) (ha : a.all V.may = true) (hb : b.all V.may = true) (na : ∀ v ∈ a, N64 v) (nb : ∀ v ∈ b, N64 v) : lx (key a) (key b) = ordR a b := by
  induction a generalizing b with
  | nil =>
    cases b with
    | nil => rfl
    | cons v b => obtain ⟨m, l, e⟩ := one_pos v; simp [key, e, lx, ordR]
  | cons u a ih =>
    cases b with
    | nil => obtain ⟨m, l, e⟩ := one_pos u; simp [key, e, lx, ordR]
    | cons v b =>
      simp only [List.all_cons, Bool.and_eq_true] at ha hb
      simp only [key, ordR]
      by_cases h : ord u v = 0
      · rw [if_pos h]
        obtain rfl : u = v := (ord_zero ha.1 hb.1).1 h
        rw [lx_app]
        exact ih b ha.2 hb.2 (fun w hw => na w (by simp [hw])) (fun w hw => nb w (by simp [hw]))
      · rw [if_neg h]
        exact one_order u v ha.1 hb.1 (na u (by simp)) (nb v (by simp)) h _ _
theorem ordR_zero (a b : List V) (ha : a.all V.may = true) (hb : b.all V.may = true) : ordR a b = 0 ↔ a = b := by
  induction a generalizing b with
  | nil => cases b <;> simp [ordR]
  | cons u a ih =>
    cases b with
    | nil => simp [ordR]
    | cons v b =>
      simp only [List.all_cons, Bool.and_eq_true] at ha hb
      simp only [ordR]
      have hz := ord_zero ha.1 hb.1
      by_cases h : ord u v = 0
      · rw [if_pos h, ih b ha.2 hb.2, hz.1 h]; simp
      · rw [if_neg h]
        constructor
        · intro e; exact absurd e h
        · intro e; injection e with e _; exact absurd (hz.2 e) h
/-- does r begin with p -/
def begR : List V → List V → Bool
  | _, [] => true
  | [], _ :: _ => false
  | a :: x, b :: y => veq a.k a.n a.s b.k b.n b.s && begR x y
theorem one_top (v : V) (hm : v.may = true) : ∃ m l, one v = m :: l ∧ m < 255 := by
  obtain ⟨k, n, s⟩ := v
  replace hm : may k n s = true := hm
  unfold one
  split
  · exact ⟨_, _, rfl, by omega⟩
  · split
    · rename_i h3
      simp only at h3
      subst h3
      simp [may] at hm
      refine ⟨_, _, rfl, ?_⟩
      simp only
      omega
    · split
      · exact ⟨_, _, rfl, by omega⟩
      · exact ⟨_, _, rfl, by omega⟩
/-- a key against one with a byte 255 behind it -/
theorem key_beyond (r p : List V) (hr : r.all V.may = true) (hp : p.all V.may = true) (nr : ∀ v ∈ r, N64 v) (np : ∀ v ∈ p, N64 v) : lx (key r) (key p ++ [255]) = if ordR r p = -1 ∨ begR r p = true then -1 else 1 := by
  induction p generalizing r with
  | nil =>
    cases r with
    | nil => simp [key, lx, begR]
    | cons v r =>
      simp only [List.all_cons, Bool.and_eq_true] at hr
      obtain ⟨m, l, e, hm⟩ := one_top v hr.1
      simp [key, e, lx, begR, hm]
  | cons u p ih =>
    cases r with
    | nil =>
      obtain ⟨m, l, e⟩ := one_pos u
      simp [key, e, lx, ordR]
    | cons v r =>
      simp only [List.all_cons, Bool.and_eq_true] at hr hp
      simp only [key, List.append_assoc]
      by_cases h : ord v u = 0
      · obtain rfl : v = u := (ord_zero hr.1 hp.1).1 h
        have hv : veq v.k v.n v.s v.k v.n v.s = true := veq_eq.2 ⟨rfl, rfl, rfl⟩
        have e1 : ordR (v :: r) (v :: p) = ordR r p := by simp [ordR, h]
        have e2 : begR (v :: r) (v :: p) = begR r p := by simp [begR, hv]
        rw [lx_app, ih r hr.2 hp.2 (fun w hw => nr w (by simp [hw])) (fun w hw => np w (by simp [hw]))]
        simp only [e1, e2]
      · have hv : veq v.k v.n v.s u.k u.n u.s = false := by
          rw [Bool.eq_false_iff]
          intro e
          obtain ⟨e1, e2, e3⟩ := veq_eq.1 e
          apply h
          rw [ord_zero hr.1 hp.1]
          obtain ⟨_, _, _⟩ := v
          obtain ⟨_, _, _⟩ := u
          simp only at e1 e2 e3
          subst e1 e2 e3
          rfl
        have e1 : ordR (v :: r) (u :: p) = ord v u := by simp [ordR, h]
        have e2 : begR (v :: r) (u :: p) = false := by simp [begR, hv]
        rw [one_order v u hr.1 hp.1 (nr v (by simp)) (np u (by simp)) h]
        simp only [e1, e2]
        rcases ord_bd v u with e | e | e
        · simp [e]
        · exact absurd e h
        · simp [e]
/-- of rows of as many values no key begins the other's -/
theorem key_apart (a b : List V) (x y : List Nat) (ha : a.all V.may = true) (hb : b.all V.may = true) (na : ∀ v ∈ a, N64 v) (nb : ∀ v ∈ b, N64 v) (hl : a.length = b.length) (h : key a ++ x = key b ++ y) : a = b := by
  induction a generalizing b with
  | nil => cases b with
    | nil => rfl
    | cons => simp at hl
  | cons u a ih =>
    cases b with
    | nil => simp at hl
    | cons v b =>
      simp only [List.all_cons, Bool.and_eq_true] at ha hb
      simp only [key, List.append_assoc] at h
      have h1 := un1_one u ha.1 (na u (by simp)) (key a ++ x)
      rw [h, un1_one v hb.1 (nb v (by simp))] at h1
      injection h1 with h1
      injection h1 with e1 e2
      subst e1
      rw [ih b ha.2 hb.2 (fun w hw => na w (by simp [hw])) (fun w hw => nb w (by simp [hw])) (by simpa using hl) e2.symm]
end Go.Proofs.Ytjhlfgomoookjaa
