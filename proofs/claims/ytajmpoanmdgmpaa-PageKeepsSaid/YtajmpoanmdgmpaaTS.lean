/-
  THE MATHEMATICS OF AN OPERATION: every other cell is as it was.
-/
import Derived.Test.YtajmpoanmdgmpaaTR
namespace Go.Proofs.Ytajmpoanmdgmpaa

theorem getD_all {es : List CE} (h : es.all cmay = true) {j : Nat} (hj : j < es.length) : cmay (es.getD j cz) = true := by
  rw [getD_lt hj]; exact List.all_eq_true.1 h _ (List.getElem_mem hj)
theorem keep_heap {es es1 : List CE} {ok os : Int} {ot m : Nat} {od : List Nat} (h : DoM 1 es ok os ot m od = (0, es1)) {j : Nat} (hj : (j : Int) ≠ os) : es1.getD j cz = es.getD j cz := by
  obtain ⟨hmay, hright, hdo⟩ := DoM_parts h
  unfold doM at hdo
  split at hdo
  · obtain ⟨i, ei, hi, _, _, he⟩ := putM_parts hdo
    have hos : os = (i : Int) := by unfold place at ei; rw [if_pos rfl] at ei; exact ei
    rw [he]
    unfold insM
    split
    · rename_i h9
      rw [getD_set h9.2, if_neg (by omega)]
    · rename_i h9
      have hil : i = es.length := by
        rcases Nat.lt_or_ge i es.length with h' | h'
        · exact absurd ⟨rfl, h'⟩ h9
        · omega
      rw [getD_ins hi]
      split
      · rfl
      · rw [if_neg (by omega), getD_out (by omega), getD_out (by omega)]
  · split at hdo
    · obtain ⟨hth, he⟩ := kill_parts hdo
      obtain ⟨i, ei, hi, _, hos, _⟩ := there_used (Or.inl rfl) hmay hth
      rw [ei] at he
      simp only [Int.toNat_natCast] at he
      have := hos rfl
      rw [he, getD_set hi, if_neg (by omega)]
    · split at hdo
      · obtain ⟨hth, he⟩ := wake_parts hdo
        obtain ⟨i, ei, hi, _, hos, _⟩ := there_used (Or.inl rfl) hmay hth
        rw [ei] at he
        simp only [Int.toNat_natCast] at he
        have := hos rfl
        rw [he, getD_set hi, if_neg (by omega)]
      · obtain ⟨hth, he⟩ := free_parts hdo
        obtain ⟨i, ei, hi, _, hos, _⟩ := there_used (Or.inl rfl) hmay hth
        rw [ei, if_neg (by decide)] at he
        simp only [Int.toNat_natCast] at he
        have := hos rfl
        rw [he]
        have hg : (es.set i cz).getD j cz = es.getD j cz := by rw [getD_set hi, if_neg (by omega)]
        unfold trim
        rcases Nat.lt_or_ge j (trimN (es.set i cz) (es.set i cz).length) with h1 | h1
        · rw [getD_take h1, hg]
        · rw [getD_out (by rw [List.length_take]; omega)]
          rcases Nat.lt_or_ge j es.length with h2 | h2
          · have hu := trimN_above (es.set i cz) (es.set i cz).length j h1 (by rw [List.length_set]; exact h2)
            rw [hg] at hu
            exact (cmay_unused (getD_all (may_iff.1 hmay).2.1 h2) hu).symm
          · rw [getD_out h2]
def atE (es : List CE) (d : List Nat) : CE := (es.find? fun x => decide (x.d = d)).getD cz
theorem atC_e (l : List CV) (d : List Nat) : (atC l d).e = atE (l.map CV.e) d := by
  unfold atC atE
  rw [List.find?_map]
  have : ((fun x : CE => decide (x.d = d)) ∘ CV.e) = fun x : CV => decide (x.d = d) := rfl
  rw [this]
  cases l.find? fun x : CV => decide (x.d = d) <;> rfl
theorem find_ins {es : List CE} (i : Nat) {c : CE} {f : CE → Bool} (hc : f c = false) : (es.take i ++ c :: es.drop i).find? f = es.find? f := by
  rw [List.find?_append, List.find?_cons, hc]
  simp only
  rw [← List.find?_append, List.take_append_drop]
theorem find_cut {es : List CE} {i : Nat} (hi : i < es.length) {f : CE → Bool} (hc : f (es.getD i cz) = false) : (es.take i ++ es.drop (i + 1)).find? f = es.find? f := by
  conv => rhs; rw [← List.take_append_drop i es, List.drop_eq_getElem_cons hi]
  rw [getD_lt hi] at hc
  rw [List.find?_append, List.find?_append, List.find?_cons, hc]
theorem find_set {es : List CE} {i : Nat} (hi : i < es.length) {c : CE} {f : CE → Bool} (hc : f (es.getD i cz) = false) (hd : f c = false) : (es.set i c).find? f = es.find? f := by
  rw [List.set_eq_take_append_cons_drop, if_pos hi, ← find_cut hi hc, List.find?_append, List.find?_append, List.find?_cons, hd]
theorem atE_own {es : List CE} (hr : rise 0 es = true) {j : Nat} (hj : j < es.length) : atE es (es.getD j cz).d = es.getD j cz := by
  unfold atE
  have h1 : es = es.take j ++ es[j] :: es.drop (j + 1) := by rw [← List.drop_eq_getElem_cons hj, List.take_append_drop]
  have hn : (es.take j).find? (fun x => decide (x.d = (es.getD j cz).d)) = none := by
    rw [List.find?_eq_none]
    intro y hy
    obtain ⟨i, hi, rfl⟩ := List.mem_iff_getElem.1 hy
    rw [List.length_take] at hi
    have hlt := rise_lt hr (show i < j by omega) hj
    rw [getD_lt (show i < es.length by omega)] at hlt
    rw [List.getElem_take]
    intro he
    rw [decide_eq_true_eq] at he
    rw [he, ltb_irr] at hlt
    cases hlt
  generalize hd : (es.getD j cz).d = d at hn ⊢
  have hh : es.find? (fun x => decide (x.d = d)) = some es[j] := by
    refine (congrArg (List.find? fun x => decide (x.d = d)) h1).trans ?_
    rw [List.find?_append, hn, List.find?_cons]
    rw [getD_lt hj] at hd
    simp [hd]
  rw [hh, getD_lt hj]
  rfl
theorem keep_leaf {es es1 : List CE} {ok os : Int} {ot m : Nat} {od : List Nat} (hb : ∀ c ∈ es, ∀ x ∈ c.d, x < 256) (hd : ∀ x ∈ od, x < 256) (h : DoM 2 es ok os ot m od = (0, es1)) {j : Nat} (hj : j < es.length) (hne : (es.getD j cz).d ≠ od) : atE es1 (es.getD j cz).d = es.getD j cz := by
  obtain ⟨hmay, hright, hdo⟩ := DoM_parts h
  have hr := may_rise hmay rfl
  have hown := atE_own hr hj
  have hsd : ∀ i, i < es.length → seq (es.getD i cz).d od = true → (es.getD i cz).d = od := fun i hi hs => by
    rw [seq_iff (fun x hx => hb _ (by rw [getD_lt hi]; exact List.getElem_mem hi) x hx) hd, decide_eq_true_eq] at hs
    exact hs
  generalize hdd : (es.getD j cz).d = d at hne hown ⊢
  suffices hs : es1.find? (fun x => decide (x.d = d)) = es.find? (fun x => decide (x.d = d)) by
    unfold atE at hown ⊢
    rw [hs]
    exact hown
  unfold doM at hdo
  split at hdo
  · obtain ⟨i, ei, hi, _, _, he⟩ := putM_parts hdo
    rw [he]
    unfold insM
    rw [if_neg (by omega)]
    exact find_ins i (decide_eq_false (fun h => hne h.symm))
  · split at hdo
    · obtain ⟨hth, he⟩ := kill_parts hdo
      obtain ⟨i, ei, hi, _, _, hq⟩ := there_used (Or.inr rfl) hmay hth
      rw [ei] at he
      simp only [Int.toNat_natCast] at he
      have e9 := hsd i hi (hq rfl)
      rw [he]
      exact find_set hi (decide_eq_false (by rw [e9]; exact fun h => hne h.symm)) (decide_eq_false (by simp only; rw [e9]; exact fun h => hne h.symm))
    · split at hdo
      · obtain ⟨hth, he⟩ := wake_parts hdo
        obtain ⟨i, ei, hi, _, _, hq⟩ := there_used (Or.inr rfl) hmay hth
        rw [ei] at he
        simp only [Int.toNat_natCast] at he
        have e9 := hsd i hi (hq rfl)
        rw [he]
        exact find_set hi (decide_eq_false (by rw [e9]; exact fun h => hne h.symm)) (decide_eq_false (by simp only; rw [e9]; exact fun h => hne h.symm))
      · obtain ⟨hth, he⟩ := free_parts hdo
        obtain ⟨i, ei, hi, _, _, hq⟩ := there_used (Or.inr rfl) hmay hth
        rw [ei, if_pos rfl] at he
        simp only [Int.toNat_natCast] at he
        have e9 := hsd i hi (hq rfl)
        rw [he]
        exact find_cut hi (decide_eq_false (by rw [e9]; exact fun h => hne h.symm))
end Go.Proofs.Ytajmpoanmdgmpaa
