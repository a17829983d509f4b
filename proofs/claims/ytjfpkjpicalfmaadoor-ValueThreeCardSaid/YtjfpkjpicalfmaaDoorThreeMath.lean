/-
  THE WALK OF ValueThree.
-/
import Derived.Test.YtjfpkjpicalfmaaDoorKit
import Derived.Test.YtjfpkjpicalfmaaDoorWalkH
import Derived.Test.YtjfpkjpicalfmaaDoorWalkJ
import Derived.Test.YtjfpkjpicalfmaaDoorWalkM
namespace Go.Proofs.YtjfpkjpicalfmaaDoor.valueThree
open Go.RowKit Go.Sort

theorem hold_s (p : Int → Bool) (a b : V) : (holdV p a b).s = ⟨#[]⟩ := by
  unfold holdV
  repeat' split
  all_goals rfl
theorem dec_s (d : Bool) (a b : V) : (decV d a b).s = ⟨#[]⟩ := by
  unfold decV
  repeat' split
  all_goals rfl
theorem not_s (a : V) : (notV a).s = ⟨#[]⟩ := by
  unfold notV
  repeat' split
  all_goals rfl
theorem s_le {s : ByteArray} (h : s = ⟨#[]⟩) : s.size ≤ 9223372036854775807 := by
  subst h
  exact Nat.zero_le _
theorem want_null : want 3 [⟨0, 0, ⟨#[]⟩⟩] = 0 := by simp [want, V.may, may, fits, V.isNull, veq, seq_refl]
theorem want_truth (q : Bool) : want 3 [⟨3, bit q, ⟨#[]⟩⟩] = 0 := by cases q <;> simp [want, V.may, may, fits, seq_refl, bit]
theorem want_hold (p : Int → Bool) (a b : V) : want 3 [holdV p a b] = 0 := by
  unfold holdV
  repeat' split
  all_goals first | exact want_null | exact want_truth _
theorem not_null : notV ⟨0, 0, ⟨#[]⟩⟩ = ⟨0, 0, ⟨#[]⟩⟩ := by simp [notV, want, V.may, may, fits, V.isNull, veq, seq_refl]
theorem not_truth (q : Bool) : notV ⟨3, bit q, ⟨#[]⟩⟩ = ⟨3, bit (!q), ⟨#[]⟩⟩ := by cases q <;> simp [notV, want, V.may, may, fits, V.isNull, V.is, veq, seq_refl, bit]
theorem not_hold (a b : V) : notV (holdV (fun n => decide (n < 0)) a b) = holdV (fun n => decide (n ≥ 0)) a b := by
  unfold holdV
  repeat' split
  all_goals first | exact not_null | skip
  rw [not_truth]
  congr 2
  by_cases h : ord a b < 0
  · have : ¬ ord a b ≥ 0 := by omega
    simp [h, this]
  · have : ord a b ≥ 0 := by omega
    simp [h, this]
theorem want_swap (a b : V) : want 3 [a, b] = want 3 [b, a] := by
  unfold want
  simp [Bool.and_comm]
/-- one of the three -/
def Tri (v : V) : Prop := v = ⟨0, 0, ⟨#[]⟩⟩ ∨ v = ⟨3, 0, ⟨#[]⟩⟩ ∨ v = ⟨3, 1, ⟨#[]⟩⟩
theorem tri_want {a : V} (h : Tri a) : want 3 [a] = 0 := by
  rcases h with rfl | rfl | rfl <;> simp [want, V.may, may, fits, V.isNull, veq, seq_refl]
theorem tri_two {a b : V} (h : Tri a) (k : Tri b) : want 3 [a, b] = 0 := by
  rcases h with rfl | rfl | rfl <;> rcases k with rfl | rfl | rfl <;> simp [want, V.may, may, fits, V.isNull, veq, seq_refl]
theorem tri_of {a b : V} (h : want 3 [a, b] = 0) : Tri a ∧ Tri b := want_two h
theorem tri_not (a : V) : Tri (notV a) := by
  unfold notV Tri
  repeat' split
  · exact .inl rfl
  · generalize a.is _ = q
    cases q
    · exact .inr (.inl rfl)
    · exact .inr (.inr rfl)
  · exact .inl rfl
theorem tri_dec (d : Bool) (a b : V) : Tri (decV d a b) := by
  unfold decV Tri
  repeat' split
  all_goals first | exact .inl rfl | (cases d; exact .inr (.inl rfl); exact .inr (.inr rfl)) | (cases d; exact .inr (.inr rfl); exact .inr (.inl rfl))
theorem dec_swap {a b : V} : decV false a b = decV false b a := by
  unfold decV
  rw [want_swap a b, Bool.or_comm, Bool.or_comm a.isNull]
theorem morgan {a b : V} (h : Tri a) (k : Tri b) : decV true (notV a) (notV b) = notV (decV false a b) := by
  rcases h with rfl | rfl | rfl <;> rcases k with rfl | rfl | rfl <;> simp [decV, notV, want, V.may, may, fits, V.isNull, V.is, veq, seq_refl, bit]
theorem assoc {a b c : V} (h : Tri a) (k : Tri b) (l : Tri c) : decV false (decV false a b) c = decV false a (decV false b c) := by
  rcases h with rfl | rfl | rfl <;> rcases k with rfl | rfl | rfl <;> rcases l with rfl | rfl | rfl <;> simp [decV, want, V.may, may, fits, V.isNull, V.is, veq, seq_refl, bit]
end Go.Proofs.YtjfpkjpicalfmaaDoor.valueThree
