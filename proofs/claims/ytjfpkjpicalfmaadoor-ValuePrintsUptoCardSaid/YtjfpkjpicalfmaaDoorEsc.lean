/-
  WHAT ReplaceAll MAKES OF QUOTES: each twice; each two one. No program.
-/
import Derived.Lib.Replace
import Derived.Lib.CountLaws
import Derived.Lib.SplitLaws
import Derived.Test.YtjfpkjpicalfmaaDoorMath
namespace Go.Proofs.YtjfpkjpicalfmaaDoor
open Go.Lib

theorem repl_all {s old new : List UInt8} (hne : old ≠ new) : replaceAll s old new = replaceK old new (count s old) s := by
  unfold replaceAll replace
  rw [if_neg (by simpa using hne)]
  unfold replaceNum
  rw [if_pos (Or.inl (by decide))]
theorem repl_nil {old new : List UInt8} (hne : old ≠ new) (ho : old ≠ []) : replaceAll [] old new = [] := by
  rw [repl_all hne]
  have hi : index [] old = -1 := by
    unfold index
    cases old with
    | nil => exact absurd rfl ho
    | cons a l => rfl
  rw [count_miss hi]
  rfl
theorem repl_hit {s old new : List UInt8} (hne : old ≠ new) (ho : old ≠ []) (hp : old.isPrefixOf s = true) : replaceAll s old new = new ++ replaceAll (s.drop old.length) old new := by
  have hi : index s old = ((0 : Nat) : Int) := by
    cases s with
    | nil =>
      cases old with
      | nil => exact absurd rfl ho
      | cons a l => simp at hp
    | cons b l => unfold index; rw [if_pos hp]; rfl
  rw [repl_all hne, repl_all hne, count_hit ho hi, Nat.zero_add, Nat.add_comm 1, replaceK_hit old new _ s 0 hi]
  simp
theorem repl_miss {b : UInt8} {l old new : List UInt8} (hne : old ≠ new) (ho : old ≠ []) (hp : old.isPrefixOf (b :: l) = false) : replaceAll (b :: l) old new = b :: replaceAll l old new := by
  have hge := index_ge l old
  rw [repl_all hne, repl_all hne]
  by_cases hm : index l old = -1
  · have hi : index (b :: l) old = -1 := by
      unfold index
      rw [if_neg (by rw [hp]; exact Bool.false_ne_true), if_pos (by rw [hm]; rfl)]
    rw [count_miss hi, count_miss hm]
    rfl
  · obtain ⟨i, hi⟩ : ∃ i : Nat, index l old = i := ⟨(index l old).toNat, by omega⟩
    have hi2 : index (b :: l) old = ((i + 1 : Nat) : Int) := by
      rw [index, if_neg (by rw [hp]; exact Bool.false_ne_true), if_neg (by rw [hi]; simp), hi]
      rfl
    have ed : (b :: l).drop (i + 1 + old.length) = l.drop (i + old.length) := by
      rw [show i + 1 + old.length = (i + old.length) + 1 by omega]; rfl
    rw [count_hit ho hi2, count_hit ho hi, ed, Nat.add_comm 1, replaceK_hit old new _ _ _ hi2, replaceK_hit old new _ _ _ hi, ed]
    simp

/-- each 27 twice -/
def escL : List UInt8 → List UInt8
  | [] => []
  | c :: l => if c = 39 then 39 :: 39 :: escL l else c :: escL l
/-- each two 27 one -/
def unescL : List UInt8 → List UInt8
  | [] => []
  | [c] => [c]
  | c :: d :: l => if c = 39 ∧ d = 39 then 39 :: unescL l else c :: unescL (d :: l)
theorem repl_esc (l : List UInt8) : replaceAll l [39] [39, 39] = escL l := by
  induction l with
  | nil => exact repl_nil (by decide) (by decide)
  | cons c l ih =>
    by_cases hc : c = 39
    · subst hc
      rw [repl_hit (by decide) (by decide) (by simp)]
      simp [escL, ih]
    · have hp : List.isPrefixOf [39] (c :: l) = false := by
        cases h : List.isPrefixOf [39] (c :: l) with
        | false => rfl
        | true => simp at h; exact absurd h.symm hc
      rw [repl_miss (by decide) (by decide) hp]
      simp [escL, ih, hc]
theorem repl_unesc (n : Nat) : ∀ l : List UInt8, l.length ≤ n → replaceAll l [39, 39] [39] = unescL l := by
  induction n with
  | zero =>
    intro l hl
    have : l = [] := List.eq_nil_of_length_eq_zero (by omega)
    subst this
    exact repl_nil (by decide) (by decide)
  | succ n ih =>
    intro l hl
    match l with
    | [] => exact repl_nil (by decide) (by decide)
    | [c] =>
      rw [repl_miss (by decide) (by decide) (by cases h : (39 == c) <;> simp [List.isPrefixOf, h]), repl_nil (by decide) (by decide)]
      rfl
    | c :: d :: l =>
      by_cases hc : c = 39 ∧ d = 39
      · obtain ⟨rfl, rfl⟩ := hc
        rw [repl_hit (by decide) (by decide) (by simp)]
        have := ih l (by simp only [List.length_cons] at hl; omega)
        show [39] ++ Lib.replaceAll l [39, 39] [39] = _
        rw [this]; simp [unescL]
      · have hp : List.isPrefixOf [39, 39] (c :: d :: l) = false := by
          cases h : List.isPrefixOf [39, 39] (c :: d :: l) with
          | false => rfl
          | true => simp at h; exact absurd ⟨h.1.symm, h.2.symm⟩ hc
        rw [repl_miss (by decide) (by decide) hp, ih (d :: l) (by simp at hl ⊢; omega)]
        simp [unescL, hc]
theorem esc_len (l : List UInt8) : (escL l).length ≤ 2 * l.length := by
  induction l with
  | nil => simp [escL]
  | cons c l ih =>
    unfold escL
    split <;> simp <;> omega
theorem esc_ge (l : List UInt8) : l.length ≤ (escL l).length := by
  induction l with
  | nil => simp [escL]
  | cons c l ih =>
    unfold escL
    split <;> simp <;> omega
/-- as bytes -/
def esc (s : ByteArray) : ByteArray := ⟨(Lib.replaceAll s.data.toList [39] [39, 39]).toArray⟩
theorem esc_size (s : ByteArray) : s.size ≤ (esc s).size ∧ (esc s).size ≤ 2 * s.size := by
  have h1 := esc_len s.data.toList
  have h2 := esc_ge s.data.toList
  have e : (esc s).size = (escL s.data.toList).length := by
    show ((Lib.replaceAll s.data.toList [39] [39, 39]).toArray).size = _
    rw [repl_esc]; simp
  have e2 : s.size = s.data.toList.length := by show s.data.size = _; simp
  omega
theorem unesc_esc (l : List UInt8) : unescL (escL l) = l := by
  induction l with
  | nil => rfl
  | cons c l ih =>
    unfold escL
    split
    · rename_i h; subst h; simp [unescL, ih]
    · rename_i h
      cases h2 : escL l with
      | nil =>
        rw [h2] at ih
        rw [← ih]
        rfl
      | cons d m =>
        rw [h2] at ih
        simp [unescL, h, ih]
end Go.Proofs.YtjfpkjpicalfmaaDoor
