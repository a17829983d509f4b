/-
  WHAT Decode READS, STEP BY STEP (no program's walk).
-/
import Derived.Test.YtiilhnedflmgoaaWalkI
namespace Go.Proofs.Ytiilhnedflmgoaa
open Go.RowKit Go.Sort

/-- what the program reads as a value of a kind: the value, whether the reader is sound, what is left -/
def rdP (k : Int) (ok : Bool) (l : List Nat) : V × Bool × List Nat :=
  if k = 0 then (v0, ok, l)
  else if k = 1 then (⟨1, valO ok (intO l) 0, ⟨#[]⟩⟩, okO ok (intO l), leftO ok l (intO l))
  else if k = 2 then (⟨2, 0, bs (valO ok (Cd.text l 64) [])⟩, okO ok (Cd.text l 64), leftO ok l (Cd.text l 64))
  else (⟨3, ((valO ok (fixO l 1) 0 : Nat) : Int), ⟨#[]⟩⟩, okO ok (fixO l 1), leftO ok l (fixO l 1))
theorem okO_no {α : Type} (o : Option (α × Nat)) : okO false o = false := rfl
theorem rdP_dead (k : Int) (l : List Nat) : (rdP k false l).2.1 = false := by
  unfold rdP
  split
  · rfl
  · split
    · rfl
    · split <;> rfl
theorem fixO_one (l : List Nat) : fixO l 1 = match l with | x :: _ => some (x, 1) | [] => none := by
  cases l with
  | nil => simp [fixO, takeO]
  | cons x r => simp [fixO, takeO, Cd.unfix]; omega
/-- a sound reader: read, or found out -/
theorem rdP_live {k : Int} {l : List Nat} (hk : 0 ≤ k ∧ k ≤ 3) : (∃ v r, rdV k l = some (v, r) ∧ rdP k true l = (v, true, r)) ∨ (rdV k l = none ∧ ((rdP k true l).2.1 = false ∨ (rdP k true l).1.may = false)) := by
  have hk4 : k = 0 ∨ k = 1 ∨ k = 2 ∨ k = 3 := by omega
  rcases hk4 with rfl | rfl | rfl | rfl
  · left; exact ⟨v0, l, rfl, rfl⟩
  · cases hf : Cd.front l with
    | none =>
      right
      exact ⟨by simp [rdV, hf], Or.inl (by simp [rdP, intO, hf, okO])⟩
    | some z =>
      left
      exact ⟨⟨1, Cd.unzz z.1, ⟨#[]⟩⟩, l.drop z.2, by simp [rdV, hf], by simp [rdP, intO, hf, okO, valO, leftO]⟩
  · cases hf : Cd.text l 64 with
    | none =>
      right
      exact ⟨by simp [rdV, hf], Or.inl (by simp [rdP, hf, okO])⟩
    | some z =>
      left
      exact ⟨⟨2, 0, bs z.1⟩, l.drop z.2, by simp [rdV, hf], by simp [rdP, hf, okO, valO, leftO]⟩
  · have h1 := fixO_one l
    cases l with
    | nil =>
      right
      exact ⟨by simp [rdV], Or.inl (by simp [rdP, h1, okO])⟩
    | cons x r =>
      simp only at h1
      by_cases hx : x ≤ 1
      · left
        exact ⟨⟨3, (x : Int), ⟨#[]⟩⟩, r, by simp [rdV, hx], by simp [rdP, h1, okO, valO, leftO]⟩
      · right
        refine ⟨by simp [rdV, hx], Or.inr ?_⟩
        simp [rdP, h1, valO, V.may, may]
        omega
theorem rdP_ok {k : Int} {ok : Bool} {l : List Nat} (hk : 0 ≤ k ∧ k ≤ 3) (hl : ∀ x ∈ l, x < 256) (hlen : l.length ≤ 140737488351232) : VOk (rdP k ok l).1 := by
  have hk4 : k = 0 ∨ k = 1 ∨ k = 2 ∨ k = 3 := by omega
  rcases hk4 with rfl | rfl | rfl | rfl
  · exact ⟨by simp [rdP, N64, v0], Nat.zero_le _⟩
  · refine ⟨?_, Nat.zero_le _⟩
    simp only [rdP, N64]
    simp only [show ¬ (1 : Int) = 0 by omega, if_false, if_true]
    rw [intO_val]
    exact Cd.unzz_bd _ (valO_lt ok l)
  · refine ⟨by simp [rdP, N64], ?_⟩
    simp only [rdP, show ¬ (2 : Int) = 0 by omega, show ¬ (2 : Int) = 1 by omega, if_false, if_true, bs_size]
    cases ok
    · simp [valO]
    · cases hf : Cd.text l 64 with
      | none => simp [valO]
      | some z =>
        obtain ⟨t, n⟩ := z
        have := (Cd.text_one hl hf).2.1
        simp only [valO]
        omega
  · refine ⟨?_, Nat.zero_le _⟩
    simp only [rdP, N64, show ¬ (3 : Int) = 0 by omega, show ¬ (3 : Int) = 1 by omega, show ¬ (3 : Int) = 2 by omega, if_false]
    rw [fixO_one]
    cases ok
    · simp [valO]
    · cases l with
      | nil => simp [valO]
      | cons x r =>
        have := hl x (by simp)
        simp [valO]
        omega

/-- the state behind k columns -/
def St (m : List Nat) (cs : List C) (l0 : List Nat) (k : Nat) (ok : Bool) (l : List Nat) (row : List V) : Prop :=
  row.length = cs.length ∧ ((ok = true ∧ rdC m 0 cs l0 = (rdC m k (cs.drop k) l).map fun z => (row.take k ++ z.1, z.2)) ∨ (rdC m 0 cs l0 = none ∧ (ok = false ∨ ∃ x ∈ row.take k, x.may = false)))
theorem take_set {row : List V} {k : Nat} (v : V) (h : k < row.length) : (row.set k v).take (k + 1) = row.take k ++ [v] := by
  apply List.ext_getElem?
  intro i
  rw [List.getElem?_take, List.getElem?_set]
  rcases Nat.lt_trichotomy i k with hlt | heq | hgt
  · rw [if_pos (by omega), if_neg (by omega), List.getElem?_append_left (by simp; omega), List.getElem?_take, if_pos hlt]
  · subst heq
    have hz : i - (row.take i).length = 0 := by rw [List.length_take]; omega
    rw [if_pos (by omega), if_pos rfl, if_pos h, List.getElem?_append_right (by rw [List.length_take]; omega), hz]
    rfl
  · rw [if_neg (by omega), List.getElem?_eq_none (by simp; omega)]
theorem St.start (m : List Nat) (cs : List C) (l0 : List Nat) (row : List V) (h : row.length = cs.length) : St m cs l0 0 true l0 row := ⟨h, Or.inl ⟨rfl, by simp⟩⟩
theorem St.step {m : List Nat} {cs : List C} {l0 : List Nat} {k : Nat} {ok : Bool} {l : List Nat} {row : List V} (h : St m cs l0 k ok l row) {c : C} (hc : cs[k]? = some c) (hck : c.k = 1 ∨ c.k = 2 ∨ c.k = 3) :
    St m cs l0 (k + 1) (rdP (if bitAt m k = true then 0 else c.k) ok l).2.1 (rdP (if bitAt m k = true then 0 else c.k) ok l).2.2 (row.set k (rdP (if bitAt m k = true then 0 else c.k) ok l).1) := by
  obtain ⟨h1, h2⟩ := h
  have hkl : k < row.length := by rw [h1]; exact (List.getElem?_eq_some_iff.1 hc).1
  have hk : 0 ≤ (if bitAt m k = true then 0 else c.k) ∧ (if bitAt m k = true then 0 else c.k) ≤ 3 := by split <;> omega
  generalize hkk : (if bitAt m k = true then 0 else c.k) = kk at *
  refine ⟨by simp [h1], ?_⟩
  rw [take_set _ hkl]
  rcases h2 with ⟨rfl, h2⟩ | ⟨h2, h3⟩
  · have hd : rdC m k (cs.drop k) l = match rdV kk l with | some (v, r) => (rdC m (k + 1) (cs.drop (k + 1)) r).map fun z => (v :: z.1, z.2) | none => none := by
      rw [drop_get hc]
      simp only [rdC, hkk]
      rfl
    rcases rdP_live (l := l) hk with ⟨v, r, hv, hp⟩ | ⟨hv, hp⟩
    · left
      rw [hp]
      refine ⟨rfl, ?_⟩
      rw [h2, hd, hv]
      simp [Option.map_map, Function.comp_def]
    · right
      refine ⟨by rw [h2, hd, hv]; rfl, ?_⟩
      rcases hp with hp | hp
      · exact Or.inl hp
      · exact Or.inr ⟨_, by simp, hp⟩
  · right
    refine ⟨h2, ?_⟩
    rcases h3 with rfl | ⟨x, hx, hm⟩
    · exact Or.inl (rdP_dead _ _)
    · exact Or.inr ⟨x, by simp [hx], hm⟩
/-- at the end -/
theorem St.done {m : List Nat} {cs : List C} {l0 : List Nat} {ok : Bool} {l : List Nat} {row : List V} (h : St m cs l0 cs.length ok l row) :
    (ok = true ∧ rdC m 0 cs l0 = some (row, l)) ∨ (rdC m 0 cs l0 = none ∧ (ok = false ∨ ∃ x ∈ row, x.may = false)) := by
  obtain ⟨h1, h2⟩ := h
  have ht : row.take cs.length = row := List.take_of_length_le (by omega)
  rw [ht] at h2
  rcases h2 with ⟨h2, h3⟩ | h2
  · left
    refine ⟨h2, ?_⟩
    rw [h3, List.drop_length]
    simp [rdC]
  · exact Or.inr h2

/-- what Decode answers: the error, the row -/
def decX (cs : List C) (s : ByteArray) : Int := if mayC cs = false then 1 else if (decO cs s).isSome then 0 else 5
def decV (cs : List C) (s : ByteArray) : List V := if mayC cs = false then [] else (decO cs s).getD []
theorem dec_cols {cs : List C} {s : ByteArray} (h : mayC cs = false) : decX cs s = 1 ∧ decV cs s = [] := ⟨if_pos h, if_pos h⟩
theorem dec_none {cs : List C} {s : ByteArray} (h : mayC cs = true) (h2 : decO cs s = none) : decX cs s = 5 ∧ decV cs s = [] := by
  unfold decX decV
  rw [h2, h]
  exact ⟨rfl, rfl⟩
theorem dec_some {cs : List C} {s : ByteArray} {r : List V} (h : mayC cs = true) (h2 : decO cs s = some r) : decX cs s = 0 ∧ decV cs s = r := by
  unfold decX decV
  rw [h2, h]
  exact ⟨rfl, rfl⟩
theorem decO_long {cs : List C} {s : ByteArray} (h : 160 < s.size) : decO cs s = none := if_pos h
theorem decO_short {cs : List C} {s : ByteArray} (h : s.size < mB cs.length) : decO cs s = none := by
  unfold decO
  split
  · rfl
  · rfl
theorem decO_beyond {cs : List C} {s : ByteArray} (h : beyond ((sb s).take (mB cs.length)) cs.length = true) : decO cs s = none := by
  unfold decO
  split
  · rfl
  · split
    · rfl
    · rfl
theorem decO_go {cs : List C} {s : ByteArray} (h1 : ¬ 160 < s.size) (h2 : ¬ s.size < mB cs.length) (h3 : beyond ((sb s).take (mB cs.length)) cs.length = false) : decO cs s = decR cs (sb s) := by
  unfold decO
  rw [if_neg h1, if_neg h2, if_neg (by simp [h3])]
theorem decR_none {cs : List C} {l : List Nat} (h : rdC (l.take (mB cs.length)) 0 cs (l.drop (mB cs.length)) = none) : decR cs l = none := by
  unfold decR
  rw [h]
theorem decR_left {cs : List C} {l q : List Nat} {row : List V} (h : rdC (l.take (mB cs.length)) 0 cs (l.drop (mB cs.length)) = some (row, q)) (hq : q ≠ []) : decR cs l = none := by
  unfold decR
  rw [h]
  cases q with
  | nil => contradiction
  | cons x q => rfl
theorem decR_unfit {cs : List C} {l : List Nat} {row : List V} (h : rdC (l.take (mB cs.length)) 0 cs (l.drop (mB cs.length)) = some (row, [])) (hf : fitsE cs row ≠ 0) : decR cs l = none := by
  unfold decR
  rw [h]
  simp [hf]
theorem decR_some {cs : List C} {l : List Nat} {row : List V} (h : rdC (l.take (mB cs.length)) 0 cs (l.drop (mB cs.length)) = some (row, [])) (hf : fitsE cs row = 0) : decR cs l = some row := by
  unfold decR
  rw [h]
  simp [hf]
theorem fits_not_bad {cs : List C} {row : List V} (hf : fitsE cs row = 0) : ¬ ∃ x ∈ row, x.may = false := by
  rintro ⟨x, hx, hm⟩
  obtain ⟨_, hl, h2⟩ := fitsE_zero hf
  have := List.all_eq_true.1 (fits2_may hl h2) x hx
  rw [hm] at this
  cases this
end Go.Proofs.Ytiilhnedflmgoaa
