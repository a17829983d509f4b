/-
  THE MATHEMATICS OF AN OPERATION: the page may be behind it; it changes one cell alone.
-/
import Derived.Test.YtajmpoanmdgmpaaTQ
namespace Go.Proofs.Ytajmpoanmdgmpaa

theorem kill_parts {es es1 : List CE} {a : Int} {th : Bool} {t : Nat} (h : killM es a th t = (0, es1)) : th = true ∧ es1 = es.set a.toNat ⟨(es.getD a.toNat cz).u, t, (es.getD a.toNat cz).d⟩ := by
  unfold killM at h
  split at h
  · rename_i hth
    split at h
    · injection h with _ h; exact ⟨hth, h.symm⟩
    · injection h with h; cases h
  · injection h with h; cases h
theorem wake_parts {es es1 : List CE} {a : Int} {th : Bool} (h : wakeM es a th = (0, es1)) : th = true ∧ es1 = es.set a.toNat ⟨(es.getD a.toNat cz).u, 0, (es.getD a.toNat cz).d⟩ := by
  unfold wakeM at h
  split at h
  · rename_i hth
    split at h
    · injection h with h; cases h
    · injection h with _ h; exact ⟨hth, h.symm⟩
  · injection h with h; cases h
theorem free_parts {k : Int} {es es1 : List CE} {a : Int} {th : Bool} (h : freeM k es a th = (0, es1)) : th = true ∧ es1 = if k = 2 then es.take a.toNat ++ es.drop (a.toNat + 1) else trim (es.set a.toNat cz) := by
  unfold freeM at h
  split at h
  · rename_i hth
    injection h with _ h; exact ⟨hth, h.symm⟩
  · injection h with h; cases h
/-- where an operation's cell is there -/
theorem there_used {k : Int} {es : List CE} {os : Int} {od : List Nat} (hk : k = 1 ∨ k = 2) (hmay : may k es = true) (h : (place k es os od).2 = true) :
    ∃ i : Nat, (place k es os od).1 = (i : Int) ∧ i < es.length ∧ (es.getD i cz).u = true ∧ (k = 1 → os = (i : Int)) ∧ (k = 2 → seq (es.getD i cz).d od = true) := by
  obtain ⟨h0, hlt⟩ := place_there h
  obtain ⟨i, hi⟩ := Int.eq_ofNat_of_zero_le h0
  rw [hi] at hlt
  simp only [Int.toNat_natCast] at hlt
  refine ⟨i, hi, hlt, ?_, fun hk1 => ?_, fun hk2 => ?_⟩
  · rcases hk with rfl | rfl
    · unfold place at h hi
      rw [if_pos rfl] at h hi
      simp only [Bool.and_eq_true, decide_eq_true_eq] at h hi
      rw [hi] at h
      exact h.2.2
    · exact (rise_at (may_rise hmay rfl) hlt).1
  · unfold place at hi
    rw [if_pos hk1] at hi
    exact hi
  · unfold place at h hi
    rw [if_neg (by omega)] at h hi
    simp only at h hi
    unfold isThere at h
    rw [Bool.and_eq_true] at h
    have e : lbd es od = i := by omega
    rw [e] at h
    exact h.2
theorem trimN_last (es : List CE) : ∀ k, trimN es k = 0 ∨ (es.getD (trimN es k - 1) cz).u = true
  | 0 => Or.inl rfl
  | k + 1 => by
    rw [trimN_succ]
    split
    · rename_i h; right; simpa using h
    · exact trimN_last es k
theorem trimN_above (es : List CE) : ∀ k j, trimN es k ≤ j → j < k → (es.getD j cz).u = false
  | 0, j, _, h => by omega
  | k + 1, j, h1, h2 => by
    rw [trimN_succ] at h1
    split at h1
    · omega
    · rename_i h
      rcases Nat.lt_or_ge j k with h' | h'
      · exact trimN_above es k j h1 h'
      · obtain rfl : j = k := by omega
        simpa using h
theorem psz_le_take (es : List CE) (i : Nat) : psz (es.take i) ≤ psz es := by
  have h : (es.map csz).sum = ((es.take i).map csz).sum + ((es.drop i).map csz).sum := by
    rw [← List.sum_append, ← List.map_append, List.take_append_drop]
  unfold psz
  omega
theorem getD_take {es : List CE} {i j : Nat} (h : j < i) : (es.take i).getD j cz = es.getD j cz := by
  simp only [List.getD, List.getElem?_take, if_pos h]
theorem getD_out {es : List CE} {j : Nat} (h : es.length ≤ j) : es.getD j cz = cz := by
  simp [List.getD, List.getElem?_eq_none h]
theorem csz_min (c : CE) : 2 ≤ csz c := by unfold csz; split <;> omega
theorem may_trim {es : List CE} (h : may 1 es = true) {i : Nat} (hi : i < es.length) : may 1 (trim (es.set i cz)) = true := by
  rw [may_iff] at h ⊢
  obtain ⟨h1, h2, h3, h4⟩ := h
  have hp := psz_set (c := cz) hi
  have hz : csz cz = 2 := rfl
  have hm := csz_min (es.getD i cz)
  have ht := psz_le_take (es.set i cz) (trimN (es.set i cz) (es.set i cz).length)
  have hle := trimN_le (es.set i cz) (es.set i cz).length
  have hl : (es.set i cz).length = es.length := List.length_set ..
  have hall : (es.set i cz).all cmay = true := all_set h2 (by rfl)
  refine ⟨?_, ?_, by unfold trim; omega, ?_⟩
  · unfold trim; rw [List.length_take]; omega
  · rw [List.all_eq_true] at hall ⊢
    intro x hx
    exact hall x (List.mem_of_mem_take hx)
  · unfold stand
    rw [if_pos rfl, lastU_iff]
    unfold trim
    rw [List.length_take]
    rcases trimN_last (es.set i cz) (es.set i cz).length with h5 | h5
    · left; omega
    · rcases Nat.eq_zero_or_pos (trimN (es.set i cz) (es.set i cz).length) with h6 | h6
      · left; omega
      · right
        rw [show min (trimN (es.set i cz) (es.set i cz).length) (es.set i cz).length = trimN (es.set i cz) (es.set i cz).length by omega, getD_take (by omega)]
        exact h5
theorem getD_cut {es : List CE} {i j : Nat} (hi : i < es.length) : (es.take i ++ es.drop (i + 1)).getD j cz = if j < i then es.getD j cz else es.getD (j + 1) cz := by
  have hl : (es.take i).length = i := by rw [List.length_take]; omega
  simp only [List.getD]
  split
  · rename_i h
    rw [List.getElem?_append_left (by omega), List.getElem?_take, if_pos h]
  · rename_i h
    rw [List.getElem?_append_right (by omega), hl, List.getElem?_drop, show i + 1 + (j - i) = j + 1 by omega]
theorem len_cut {es : List CE} {i : Nat} (hi : i < es.length) : (es.take i ++ es.drop (i + 1)).length + 1 = es.length := by
  rw [List.length_append, List.length_take, List.length_drop]
  omega
theorem rise_of {es : List CE} (h : ∀ i, i < es.length → (es.getD i cz).u = true ∧ (0 < i → ltb (es.getD (i - 1) cz).d (es.getD i cz).d = true)) : rise 0 es = true := by
  unfold rise
  rw [all_rng]
  intro i hi
  obtain ⟨a, b⟩ := h i hi
  unfold okAt
  simp only [ent_zero, Bool.and_eq_true, Bool.or_eq_true, beq_iff_eq]
  refine ⟨a, ?_⟩
  rcases Nat.eq_zero_or_pos i with h0 | h0
  · exact Or.inl h0
  · exact Or.inr (b h0)
theorem may_cut {es : List CE} (h : may 2 es = true) {i : Nat} (hi : i < es.length) : may 2 (es.take i ++ es.drop (i + 1)) = true := by
  have hr := may_rise h rfl
  rw [may_iff] at h ⊢
  obtain ⟨h1, h2, h3, h4⟩ := h
  have hl := len_cut hi
  refine ⟨by omega, ?_, ?_, ?_⟩
  · rw [List.all_eq_true] at h2 ⊢
    intro x hx
    rcases List.mem_append.1 hx with hx | hx
    · exact h2 x (List.mem_of_mem_take hx)
    · exact h2 x (List.mem_of_mem_drop hx)
  · have e : (es.map csz).sum = ((es.take i).map csz).sum + ((es.drop i).map csz).sum := by
      rw [← List.sum_append, ← List.map_append, List.take_append_drop]
    have e2 : ((es.drop i).map csz).sum = csz es[i] + ((es.drop (i + 1)).map csz).sum := by
      rw [List.drop_eq_getElem_cons hi, List.map_cons, List.sum_cons]
    unfold psz at h3 ⊢
    rw [List.map_append, List.sum_append]
    omega
  · unfold stand
    rw [if_neg (by decide), if_neg (by decide), if_pos rfl]
    refine rise_of fun j hj => ?_
    rw [getD_cut hi, getD_cut hi]
    by_cases h5 : j < i
    · rw [if_pos h5, if_pos (by omega)]
      exact rise_at hr (by omega)
    · rw [if_neg h5]
      refine ⟨(rise_at hr (by omega)).1, fun h0 => ?_⟩
      split
      · exact rise_lt hr (by omega) (by omega)
      · exact rise_lt hr (by omega) (by omega)
/-- what an operation leaves may be, and is one cell longer at most -/
theorem do_may {k : Int} {es es1 : List CE} {ok os : Int} {ot m : Nat} {od : List Nat} (h : DoM k es ok os ot m od = (0, es1)) (hm : od.length = m) : may k es1 = true ∧ es1.length ≤ es.length + 1 := by
  obtain ⟨hmay, hright, hdo⟩ := DoM_parts h
  have hk := (right_parts hright).1
  obtain ⟨r1, r2, r3, r4, r5⟩ := right_parts2 hright
  unfold doM at hdo
  split at hdo
  · rename_i h1
    have hmm : 1 ≤ od.length ∧ od.length ≤ 180 := by
      rcases hk with h | h
      · have := r4 h h1; omega
      · have := r3 h; omega
    refine ⟨(put_undone hk hmay hdo hmm.1 hmm.2).1, ?_⟩
    obtain ⟨i, _, hi, _, _, he⟩ := putM_parts hdo
    rw [he]
    unfold insM
    split
    · rw [List.length_set]; omega
    · rw [len_ins hi]; omega
  · split at hdo
    · obtain ⟨hth, he⟩ := kill_parts hdo
      obtain ⟨i, ei, hi, hu, _, _⟩ := there_used hk hmay hth
      rw [ei] at he
      simp only [Int.toNat_natCast] at he
      rw [he]
      exact ⟨may_kill hk hmay hi hu ot, by rw [List.length_set]; omega⟩
    · split at hdo
      · obtain ⟨hth, he⟩ := wake_parts hdo
        obtain ⟨i, ei, hi, hu, _, _⟩ := there_used hk hmay hth
        rw [ei] at he
        simp only [Int.toNat_natCast] at he
        rw [he]
        exact ⟨may_kill hk hmay hi hu 0, by rw [List.length_set]; omega⟩
      · obtain ⟨hth, he⟩ := free_parts hdo
        obtain ⟨i, ei, hi, hu, _, _⟩ := there_used hk hmay hth
        rw [ei] at he
        simp only [Int.toNat_natCast] at he
        rw [he]
        rcases hk with rfl | rfl
        · rw [if_neg (by decide)]
          refine ⟨may_trim hmay hi, ?_⟩
          unfold trim
          rw [List.length_take, List.length_set]
          omega
        · rw [if_pos rfl]
          have := len_cut hi
          exact ⟨may_cut hmay hi, by omega⟩
end Go.Proofs.Ytajmpoanmdgmpaa
