/-
  WHAT THE LAWS' WALKS WANT OF THE ANSWERS.
-/
import Derived.Test.YtiilhnedflmgoaaWalkT
import Derived.Test.YtiilhnedflmgoaaOpen
namespace Go.Proofs.Ytiilhnedflmgoaa
open Go.RowKit Go.Sort

theorem decV_len (cs : List C) (s : ByteArray) : (decV cs s).length ≤ 16 := by
  unfold decV
  cases em : mayC cs with
  | false => exact Nat.zero_le _
  | true =>
    rw [if_neg (by simp)]
    cases h : decO cs s with
    | none => exact Nat.zero_le _
    | some r =>
      obtain ⟨h1, _, _⟩ := enc_dec em h
      obtain ⟨_, hl, _⟩ := fitsE_zero (enc_parts h1).1
      have := ((mayC_iff cs).1 em).2.1
      simp only [Option.getD_some]
      omega
/-- there and back -/
theorem back1 {cs : List C} {vs : List V} (h : encE cs vs = 0) (hn : ∀ v ∈ vs, VOk v) : decX cs (encS cs vs) = 0 ∧ decV cs (encS cs vs) = vs :=
  dec_some (fitsE_zero (enc_parts h).1).1 (dec_enc h fun v hv => (hn v hv).n)
theorem back2 {cs : List C} {s : ByteArray} (h : decX cs s = 0) : encE cs (decV cs s) = 0 ∧ encS cs (decV cs s) = s := by
  unfold decX at h
  cases em : mayC cs with
  | false => rw [em] at h; simp at h
  | true =>
    rw [em] at h
    cases hd : decO cs s with
    | none => rw [hd] at h; simp at h
    | some r =>
      obtain ⟨h1, h2, _⟩ := enc_dec em hd
      obtain ⟨_, hv⟩ := dec_some em hd
      rw [hv]
      exact ⟨h1, h2⟩
theorem apart {cs : List C} {xs ys : List V} (hx : encE cs xs = 0) (hy : encE cs ys = 0) (nx : ∀ v ∈ xs, VOk v) (ny : ∀ v ∈ ys, VOk v) : seq (encS cs xs) (encS cs ys) = eqR xs ys := by
  by_cases h : xs = ys
  · subst h
    rw [seq_refl, (eqR_iff xs xs).2 rfl]
  · rw [eqR_of_ne h, Bool.eq_false_iff]
    intro e
    rw [seq_eq] at e
    have h1 := (back1 hx nx).2
    have h2 := (back1 hy ny).2
    rw [e, h2] at h1
    exact h h1.symm
end Go.Proofs.Ytiilhnedflmgoaa
