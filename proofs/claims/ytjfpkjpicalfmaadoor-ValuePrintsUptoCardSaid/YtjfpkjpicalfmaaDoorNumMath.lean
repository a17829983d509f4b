/-
  THE MATHEMATICS OF the document's Number: digits that spell a number are its numeral.
-/
import Derived.Test.YtjfpkjpicalfmaaDoorBackMath
import Derived.Test.YtjfpkjpicalfmaaDoorWalkS
namespace Go.Proofs.YtjfpkjpicalfmaaDoor
open Go.Lib

/-- what digits spell, behind 'acc' -/
def digs : List UInt8 → Nat → Option Nat
  | [], acc => some acc
  | c :: r, acc => if 48 ≤ c.toNat ∧ c.toNat ≤ 57 then digs r (acc * 10 + (c.toNat - 48)) else none
theorem digs_append (l m : List UInt8) (acc v : Nat) (h : digs l acc = some v) : digs (l ++ m) acc = digs m v := by
  induction l generalizing acc with
  | nil => simp [digs] at h; subst h; rfl
  | cons c l ih =>
    rw [digs] at h
    rw [List.cons_append, digs]
    split at h
    · rename_i h1
      rw [if_pos h1]
      exact ih _ h
    · cases h
theorem digs_left (l m : List UInt8) (acc u : Nat) (h : digs (l ++ m) acc = some u) : ∃ v, digs l acc = some v := by
  induction l generalizing acc with
  | nil => exact ⟨acc, rfl⟩
  | cons c l ih =>
    rw [List.cons_append, digs] at h
    rw [digs]
    split at h
    · rename_i h1
      rw [if_pos h1]
      exact ih _ h
    · cases h
theorem digs_dec (u : Nat) : digs (decDigits u) 0 = some u := by
  induction u using Nat.strongRecOn with
  | ind u ih =>
    rw [decDigits]
    split
    · rename_i h
      have e : (UInt8.ofNat (48 + u)).toNat = 48 + u := by simp; omega
      rw [digs, e, if_pos (by omega), digs]
      congr 1
      omega
    · rename_i h
      have e : (UInt8.ofNat (48 + u % 10)).toNat = 48 + u % 10 := by simp; omega
      rw [digs_append _ _ _ _ (ih (u / 10) (by omega)), digs, e, if_pos (by omega), digs]
      congr 1
      omega
theorem digs_ge (l : List UInt8) (acc v : Nat) (h : digs l acc = some v) : acc ≤ v := by
  induction l generalizing acc with
  | nil => simp [digs] at h; omega
  | cons c l ih =>
    rw [digs] at h
    split at h
    · have := ih _ h
      omega
    · cases h
/-- no nought ahead -/
def lead (l : List UInt8) : Prop := ∀ c r, l = c :: r → c = 48 → r = []
theorem last_digit (c : UInt8) (h1 : 48 ≤ c.toNat) (h2 : c.toNat ≤ 57) : UInt8.ofNat (48 + (c.toNat - 48)) = c := by
  have : 48 + (c.toNat - 48) = c.toNat := by omega
  rw [this]
  simp
theorem dec_digs (n : Nat) : ∀ (l : List UInt8) (u : Nat), l.length = n → l ≠ [] → lead l → digs l 0 = some u → decDigits u = l := by
  induction n with
  | zero =>
    intro l u hl hne _ _
    exact absurd (List.eq_nil_of_length_eq_zero hl) hne
  | succ n ih =>
    intro l u hl hne hlead h
    obtain ⟨m, c, rfl⟩ : ∃ m c, l = m ++ [c] := ⟨l.dropLast, l.getLast hne, (List.dropLast_concat_getLast hne).symm⟩
    obtain ⟨v, hv⟩ := digs_left m [c] 0 u h
    rw [digs_append _ _ _ _ hv, digs] at h
    split at h
    · rename_i hc
      simp [digs] at h
      by_cases hm : m = []
      · subst hm
        simp [digs] at hv
        subst hv
        have hu : u < 10 := by omega
        rw [decDigits]
        rw [dif_pos hu]
        have : u = c.toNat - 48 := by omega
        rw [this, last_digit c hc.1 hc.2]
        rfl
      · have hl2 : lead m := by
          intro a r e ea
          have := hlead a (r ++ [c]) (by rw [e]; rfl) ea
          simp at this
        have hd := ih m v (by simp at hl; omega) hm hl2 hv
        have hv1 : 1 ≤ v := by
          rcases Nat.eq_zero_or_pos v with h0 | h0
          · exfalso
            subst h0
            rw [decDigits, dif_pos (by omega)] at hd
            have := hlead 48 ([] ++ [c]) (by rw [← hd]; rfl) rfl
            simp at this
          · exact h0
        rw [decDigits, dif_neg (by omega)]
        have e1 : u / 10 = v := by omega
        have e2 : u % 10 = c.toNat - 48 := by omega
        rw [e1, e2, hd, last_digit c hc.1 hc.2]
    · cases h
end Go.Proofs.YtjfpkjpicalfmaaDoor
