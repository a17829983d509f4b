/-
  THE PLAIN MATHEMATICS OF STAGE 3: values, which may be, their order. No program.
-/
import Derived.Lib.Small
import Derived.Laws.Strings
import Derived.ShutString
namespace Go.Proofs.YtjfpkjpicalfmaaDoor

/-- a value: its kind, its number, its text -/
structure V where
  k : Int
  n : Int
  s : ByteArray
def nil : ByteArray := ⟨#[]⟩
def V.agg (v : V) : Value := .agg #[.int .i64 v.k, .int .i64 v.n, .string v.s]
/-- two texts are one -/
def seq (a b : ByteArray) : Bool := a.toList == b.toList
/-- two values are one -/
def veq (k n : Int) (s : ByteArray) (k' n' : Int) (s' : ByteArray) : Bool := k == k' && n == n' && seq s s'
structure V.Ok (v : V) : Prop where
  k1 : -9223372036854775808 ≤ v.k
  k2 : v.k ≤ 9223372036854775807
  n1 : -9223372036854775808 ≤ v.n
  n2 : v.n ≤ 9223372036854775807
  s1 : v.s.size ≤ 140737488351232

theorem seq_refl (a : ByteArray) : seq a a = true := by simp [seq]
theorem toList_inj {a b : ByteArray} (h : a.toList = b.toList) : a = b := by
  rw [ByteArray.toList_eq, ByteArray.toList_eq] at h
  obtain ⟨⟨x⟩⟩ := a
  obtain ⟨⟨y⟩⟩ := b
  simp at h
  subst h
  rfl
theorem seq_eq {a b : ByteArray} : seq a b = true ↔ a = b := by
  constructor
  · intro h; exact toList_inj (by simpa [seq] using h)
  · rintro rfl; exact seq_refl _
theorem veq_eq {k n : Int} {s : ByteArray} {k' n' : Int} {s' : ByteArray} : veq k n s k' n' s' = true ↔ k = k' ∧ n = n' ∧ s = s' := by
  simp [veq, seq_eq, and_assoc]
theorem size_nil {s : ByteArray} (h : s.size = 0) : s = ⟨#[]⟩ := by
  obtain ⟨a⟩ := s
  have : a.size = 0 := h
  simp at this
  subst this
  rfl

/-- May: P3.1 -/
def may (k n : Int) (s : ByteArray) : Bool :=
  if k = 0 then n == 0 && seq s ⟨#[]⟩
  else if k = 1 then seq s ⟨#[]⟩
  else if k = 2 then n == 0 && decide (s.size ≤ 64)
  else if k = 3 then seq s ⟨#[]⟩ && (n == 0 || n == 1)
  else false
def V.may (v : V) : Bool := YtjfpkjpicalfmaaDoor.may v.k v.n v.s

/-- a kind's place -/
def place (k : Int) : Int := if k = 3 then 1 else if k = 1 then 2 else if k = 2 then 3 else 0
/-- the order of texts -/
def cmpL : List UInt8 → List UInt8 → Int
  | [], [] => 0
  | [], _ :: _ => -1
  | _ :: _, [] => 1
  | a :: x, b :: y => if a < b then -1 else if b < a then 1 else cmpL x y
def cmpS (a b : ByteArray) : Int := cmpL a.toList b.toList
def firstOf (a b c : Int) : Int := if a = 0 then (if b = 0 then c else b) else a
/-- the order of values: P3.2 -/
def ord (a b : V) : Int := firstOf (Lib.compareInt (place a.k) (place b.k)) (Lib.compareInt a.n b.n) (cmpS a.s b.s)

theorem cmpL_bd (l m : List UInt8) : cmpL l m = -1 ∨ cmpL l m = 0 ∨ cmpL l m = 1 := by
  induction l generalizing m with
  | nil => cases m <;> simp [cmpL]
  | cons a x ih =>
    cases m with
    | nil => simp [cmpL]
    | cons b y =>
      simp only [cmpL]
      split
      · simp
      · split
        · simp
        · exact ih y
theorem cmpL_anti (l m : List UInt8) : cmpL m l = - cmpL l m := by
  induction l generalizing m with
  | nil => cases m <;> simp [cmpL]
  | cons a x ih =>
    cases m with
    | nil => simp [cmpL]
    | cons b y =>
      simp only [cmpL]
      by_cases h1 : a < b
      · have h2 : ¬ b < a := by simp only [UInt8.lt_iff_toNat_lt] at *; omega
        simp [h1, h2]
      · by_cases h2 : b < a
        · simp [h1, h2]
        · simp [h1, h2, ih y]
theorem cmpL_zero (l m : List UInt8) : cmpL l m = 0 ↔ l = m := by
  induction l generalizing m with
  | nil => cases m <;> simp [cmpL]
  | cons a x ih =>
    cases m with
    | nil => simp [cmpL]
    | cons b y =>
      simp only [cmpL]
      by_cases h1 : a < b
      · have : a ≠ b := by rintro rfl; simp only [UInt8.lt_iff_toNat_lt] at h1; omega
        simp [h1, this]
      · by_cases h2 : b < a
        · have : a ≠ b := by rintro rfl; simp only [UInt8.lt_iff_toNat_lt] at h2; omega
          simp [h1, h2, this]
        · have : a = b := by
            apply UInt8.toNat_inj.1
            simp only [UInt8.lt_iff_toNat_lt] at *
            omega
          simp [ih y, this]
theorem bytesLess_cmp (l m : List UInt8) : Op.bytesLess l m = decide (cmpL l m = -1) := by
  induction l generalizing m with
  | nil => cases m <;> simp [Op.bytesLess, cmpL]
  | cons a x ih =>
    cases m with
    | nil => simp [Op.bytesLess, cmpL]
    | cons b y =>
      simp only [Op.bytesLess, cmpL]
      by_cases h1 : a < b
      · simp [h1]
      · by_cases h2 : b < a
        · have : (a == b) = false := by
            apply beq_eq_false_iff_ne.2
            rintro rfl
            simp only [UInt8.lt_iff_toNat_lt] at h2
            omega
          simp [h1, h2, this]
        · have : (a == b) = true := by
            apply beq_iff_eq.2
            apply UInt8.toNat_inj.1
            simp only [UInt8.lt_iff_toNat_lt] at *
            omega
          simp [h1, h2, this, ih y]
theorem cmpL_trans (l m k : List UInt8) (h1 : cmpL l m ≤ 0) (h2 : cmpL m k ≤ 0) : cmpL l k ≤ 0 ∧ (cmpL l m < 0 → cmpL l k < 0) ∧ (cmpL m k < 0 → cmpL l k < 0) := by
  induction l generalizing m k with
  | nil =>
    cases k with
    | nil =>
      cases m with
      | nil => simp [cmpL]
      | cons b y => simp [cmpL] at h2
    | cons c z => simp [cmpL]
  | cons a x ih =>
    cases m with
    | nil => simp [cmpL] at h1
    | cons b y =>
      cases k with
      | nil => simp [cmpL] at h2
      | cons c z =>
        simp only [cmpL, UInt8.lt_iff_toNat_lt] at *
        by_cases e1 : a.toNat < b.toNat
        · by_cases e2 : c.toNat < b.toNat
          · simp [e2, show ¬ b.toNat < c.toNat by omega] at h2
          · have : a.toNat < c.toNat := by omega
            simp [this]
        · by_cases e2 : b.toNat < a.toNat
          · simp [e1, e2] at h1
          · by_cases e3 : b.toNat < c.toNat
            · have : a.toNat < c.toNat := by omega
              simp [this]
            · by_cases e4 : c.toNat < b.toNat
              · simp [e3, e4] at h2
              · simp only [e1, e2, if_false] at h1 ⊢
                simp only [e3, e4, if_false] at h2 ⊢
                have e5 : ¬ a.toNat < c.toNat := by omega
                have e6 : ¬ c.toNat < a.toNat := by omega
                simp only [e5, e6, if_false]
                exact ih y z h1 h2

theorem cmpS_bd (a b : ByteArray) : cmpS a b = -1 ∨ cmpS a b = 0 ∨ cmpS a b = 1 := cmpL_bd _ _
theorem cmpS_anti (a b : ByteArray) : cmpS b a = - cmpS a b := cmpL_anti _ _
theorem cmpS_zero (a b : ByteArray) : cmpS a b = 0 ↔ a = b := by
  unfold cmpS
  rw [cmpL_zero]
  exact ⟨toList_inj, fun h => by rw [h]⟩
theorem cmpI_bd (a b : Int) : Lib.compareInt a b = -1 ∨ Lib.compareInt a b = 0 ∨ Lib.compareInt a b = 1 := by unfold Lib.compareInt; split <;> (try split) <;> simp
theorem cmpI_anti (a b : Int) : Lib.compareInt b a = - Lib.compareInt a b := by unfold Lib.compareInt; split <;> split <;> (try split) <;> (try split) <;> omega
theorem cmpI_zero (a b : Int) : Lib.compareInt a b = 0 ↔ a = b := by unfold Lib.compareInt; split <;> (try split) <;> omega
theorem ord_bd (a b : V) : ord a b = -1 ∨ ord a b = 0 ∨ ord a b = 1 := by
  unfold ord firstOf
  have h1 := cmpI_bd (place a.k) (place b.k)
  have h2 := cmpI_bd a.n b.n
  have h3 := cmpS_bd a.s b.s
  split
  · split
    · exact h3
    · exact h2
  · exact h1
theorem ord_anti (a b : V) : ord b a = - ord a b := by
  unfold ord firstOf
  rw [cmpI_anti (place a.k) (place b.k), cmpI_anti a.n b.n, cmpS_anti a.s b.s]
  by_cases h1 : Lib.compareInt (place a.k) (place b.k) = 0 <;> by_cases h2 : Lib.compareInt a.n b.n = 0 <;> simp [h1, h2]
theorem place_inj {k k' : Int} (h : 0 ≤ k ∧ k ≤ 3) (h' : 0 ≤ k' ∧ k' ≤ 3) (e : place k = place k') : k = k' := by unfold place at e; repeat (first | split at e | omega)
theorem may_kind {k n : Int} {s : ByteArray} (h : may k n s = true) : 0 ≤ k ∧ k ≤ 3 := by
  unfold may at h
  repeat (first | split at h | omega)
  cases h
theorem ord_zero {a b : V} (ha : a.may = true) (hb : b.may = true) : ord a b = 0 ↔ a = b := by
  obtain ⟨k, n, s⟩ := a
  obtain ⟨k', n', s'⟩ := b
  have h1 := may_kind ha
  have h2 := may_kind hb
  unfold ord firstOf
  simp only at h1 h2
  constructor
  · intro h
    by_cases e1 : Lib.compareInt (place k) (place k') = 0
    · by_cases e2 : Lib.compareInt n n' = 0
      · simp only [e1, e2, if_true] at h
        rw [cmpI_zero] at e1 e2
        rw [cmpS_zero] at h
        rw [place_inj h1 h2 e1, e2, h]
      · simp [e1, e2] at h
    · simp [e1] at h
  · intro h
    injection h with e1 e2 e3
    subst e1 e2 e3
    simp [(cmpI_zero _ _).2 rfl, (cmpS_zero _ _).2 rfl]
theorem cmpI_trans (a b c : Int) (h1 : Lib.compareInt a b ≤ 0) (h2 : Lib.compareInt b c ≤ 0) : Lib.compareInt a c ≤ 0 ∧ (Lib.compareInt a b < 0 → Lib.compareInt a c < 0) ∧ (Lib.compareInt b c < 0 → Lib.compareInt a c < 0) := by
  unfold Lib.compareInt at *
  repeat' split at *
  all_goals omega
theorem ord_trans (a b c : V) (h1 : ord a b ≤ 0) (h2 : ord b c ≤ 0) : ord a c ≤ 0 ∧ (ord a b < 0 → ord a c < 0) ∧ (ord b c < 0 → ord a c < 0) := by
  have tp := cmpI_trans (place a.k) (place b.k) (place c.k)
  have tn := cmpI_trans a.n b.n c.n
  have ts : cmpS a.s b.s ≤ 0 → cmpS b.s c.s ≤ 0 → cmpS a.s c.s ≤ 0 ∧ (cmpS a.s b.s < 0 → cmpS a.s c.s < 0) ∧ (cmpS b.s c.s < 0 → cmpS a.s c.s < 0) := cmpL_trans _ _ _
  have zp : Lib.compareInt (place a.k) (place b.k) = 0 → Lib.compareInt (place b.k) (place c.k) = 0 → Lib.compareInt (place a.k) (place c.k) = 0 := by simp only [cmpI_zero]; omega
  have zn : Lib.compareInt a.n b.n = 0 → Lib.compareInt b.n c.n = 0 → Lib.compareInt a.n c.n = 0 := by simp only [cmpI_zero]; omega
  unfold ord firstOf at *
  generalize Lib.compareInt (place a.k) (place b.k) = p1 at *
  generalize Lib.compareInt (place b.k) (place c.k) = p2 at *
  generalize Lib.compareInt (place a.k) (place c.k) = p3 at *
  generalize Lib.compareInt a.n b.n = n1 at *
  generalize Lib.compareInt b.n c.n = n2 at *
  generalize Lib.compareInt a.n c.n = n3 at *
  generalize cmpS a.s b.s = s1 at *
  generalize cmpS b.s c.s = s2 at *
  generalize cmpS a.s c.s = s3 at *
  split at h1 <;> split at h2 <;> (try split at h1) <;> (try split at h2) <;> (try split) <;> (try split) <;> omega
end Go.Proofs.YtjfpkjpicalfmaaDoor
