/-
  THE MATHEMATICS OF OPERATIONS: a Put and a Kill are undone.
-/
import Derived.Test.YtajmpoanmdgmpaaTM
import Derived.Test.YtajmpoanmdgmpaaPS
namespace Go.Proofs.Ytajmpoanmdgmpaa

theorem DoM_parts {k : Int} {es es1 : List CE} {ok os : Int} {ot m : Nat} {od : List Nat} (h : DoM k es ok os ot m od = (0, es1)) : may k es = true ∧ rightP k ok os ot m = true ∧ doM k es ok os ot od = (0, es1) := by
  unfold DoM at h
  split at h
  · rename_i h1
    split at h
    · rename_i h2
      exact ⟨h1, h2, h⟩
    · injection h with h; cases h
  · injection h with h; cases h
theorem DoM_of {k : Int} {es : List CE} {ok os : Int} {ot m : Nat} {od : List Nat} (h1 : may k es = true) (h2 : rightP k ok os ot m = true) : DoM k es ok os ot m od = doM k es ok os ot od := by
  unfold DoM
  rw [if_pos h1, if_pos h2]
theorem putM_parts {k : Int} {es es1 : List CE} {at_ : Int} {th : Bool} {od : List Nat} (h : putM k es at_ th od = (0, es1)) : ∃ i : Nat, at_ = (i : Int) ∧ i ≤ es.length ∧ th = false ∧ full es1 = false ∧ es1 = insM k es i od := by
  unfold putM at h
  split at h
  · injection h with h; cases h
  rename_i hr
  split at h
  · injection h with h; cases h
  rename_i hth
  split at h
  · injection h with h; cases h
  rename_i hf
  injection h with _ h
  refine ⟨at_.toNat, by omega, by omega, by simpa using hth, ?_, h.symm⟩
  rw [← h]
  simpa using hf
theorem right_parts2 {kd k s : Int} {t m : Nat} (h : rightP kd k s t m = true) : (k = 2 → t ≠ 0) ∧ (k ≠ 2 → t = 0) ∧ (kd = 2 → s = 0 ∧ 1 ≤ m ∧ m ≤ 180) ∧ (kd = 1 → k = 1 → 1 ≤ m ∧ m ≤ 180) ∧ (kd = 1 → k ≠ 1 → m = 0) := by
  unfold rightP at h
  split at h
  · cases h
  split at h
  · cases h
  split at h
  · cases h
  split at h
  · cases h
  rename_i h4
  have hdo : ∀ m, dataOk m = true → 1 ≤ m ∧ m ≤ 180 := fun m h => by
    unfold dataOk at h
    simpa only [Bool.and_eq_true, decide_eq_true_eq] using h
  refine ⟨fun hk => ?_, fun hk => ?_, fun hkd => ?_, fun hkd hk => ?_, fun hkd hk => ?_⟩
  · intro ht; exact h4 (by rw [decide_eq_true ht, decide_eq_true hk])
  · refine Classical.byContradiction fun ht => h4 ?_
    rw [decide_eq_false ht, decide_eq_false hk]
  · rw [if_pos hkd] at h
    split at h
    · rename_i hs; exact ⟨hs, hdo m h⟩
    · cases h
  · rw [if_neg (by omega), if_pos hk] at h; exact hdo m h
  · rw [if_neg (by omega), if_neg hk] at h; simpa using h
theorem right_undo {kd k s' : Int} {m : Nat} (hkd : kd = 1 ∨ kd = 2) (hk : k = 3 ∨ k = 4) (h2 : kd = 2 → s' = 0 ∧ 1 ≤ m ∧ m ≤ 180) (h1 : kd = 1 → m = 0) : rightP kd k s' 0 m = true := by
  unfold rightP
  have ht : takes kd = true := by unfold takes; rcases hkd with h | h <;> simp [h]
  rw [ht, if_neg (by decide), if_neg (by omega), if_neg (by omega), if_neg (by rw [decide_eq_true rfl, decide_eq_false (by omega)]; decide)]
  rcases hkd with h | h
  · rw [if_neg (by omega), if_neg (by omega)]
    simpa using h1 h
  · obtain ⟨g1, g2, g3⟩ := h2 h
    rw [if_pos h, if_pos g1]
    unfold dataOk
    simp [g2, g3]
theorem place_heap {es : List CE} {i : Nat} {od : List Nat} (hi : i < es.length) (hu : (es.getD i cz).u = true) : place 1 es (i : Int) od = ((i : Int), true) := by
  unfold place
  rw [if_pos rfl]
  have e1 : ((i : Int)).toNat = i := by omega
  rw [e1, hu, decide_eq_true (show (0 : Int) ≤ (i : Int) by omega), decide_eq_true hi]
  rfl
theorem set_back {es : List CE} {i : Nat} {c : CE} (hi : i < es.length) (h : es.getD i cz = c) : es.set i c = es := by
  rw [← h, getD_lt hi, List.set_getElem_self]
theorem put_undone {k : Int} {es es1 : List CE} {os : Int} {od : List Nat} (hk : k = 1 ∨ k = 2) (hmay : may k es = true) (h : putM k es (place k es os od).1 (place k es os od).2 od = (0, es1)) (h1 : 1 ≤ od.length) (h2 : od.length ≤ 180) :
    may k es1 = true ∧ freeM k es1 (place k es1 os (if k = 2 then od else [])).1 (place k es1 os (if k = 2 then od else [])).2 = (0, es) ∧ es1 ≠ es := by
  obtain ⟨i, hat, hi, hth, hfull, he⟩ := putM_parts h
  rcases hk with rfl | rfl
  · have hos : os = (i : Int) := by
      unfold place at hat
      rw [if_pos rfl] at hat
      exact hat
    subst hos
    rw [if_neg (by decide)]
    unfold insM at he
    by_cases hlt : i < es.length
    · rw [if_pos ⟨rfl, hlt⟩] at he
      have hu : (es.getD i cz).u = false := by
        unfold place at hth
        rw [if_pos rfl] at hth
        have e1 : ((i : Int)).toNat = i := by omega
        simp only [e1] at hth
        rw [decide_eq_true (show (0 : Int) ≤ (i : Int) by omega), decide_eq_true hlt, Bool.true_and, Bool.true_and] at hth
        exact hth
      have hcz : es.getD i cz = cz := by
        refine cmay_unused ?_ hu
        rw [getD_lt hlt]
        exact List.all_eq_true.1 (may_iff.1 hmay).2.1 _ (List.getElem_mem hlt)
      have hl1 : i < es1.length := by rw [he, List.length_set]; exact hlt
      have hu1 : (es1.getD i cz).u = true := by rw [he, getD_set hlt, if_pos rfl]
      refine ⟨by rw [he]; rw [he] at hfull; exact may_fill hmay hlt h1 h2 hfull, ?_, fun e => ?_⟩
      · rw [place_heap hl1 hu1]
        unfold freeM
        have e1 : ((i : Int)).toNat = i := by omega
        rw [if_pos rfl, if_neg (by decide)]
        simp only [e1]
        rw [he, List.set_set, set_back hlt hcz, trim_last]
        have h4 := (may_iff.1 hmay).2.2.2
        unfold stand at h4
        rw [if_pos rfl] at h4
        exact h4
      · rw [e, hcz] at hu1
        cases hu1
    · obtain rfl : i = es.length := by omega
      rw [if_neg (by omega)] at he
      have hl1 : es.length < es1.length := by rw [he, len_ins (Nat.le_refl _)]; omega
      have hu1 : (es1.getD es.length cz).u = true := by rw [he, getD_ins (Nat.le_refl _), if_neg (by omega), if_pos rfl]
      refine ⟨by rw [he]; rw [he] at hfull; exact may_add hmay h1 h2 hfull, ?_, fun e => by rw [e] at hl1; omega⟩
      rw [place_heap hl1 hu1]
      unfold freeM
      have e1 : ((es.length : Int)).toNat = es.length := by omega
      rw [if_pos rfl, if_neg (by decide)]
      simp only [e1]
      have e2 : es1.set es.length cz = es ++ [cz] := by
        rw [he, List.take_length, List.drop_length]
        simp
      rw [e2, trim_snoc rfl, trim_last]
      have h4 := (may_iff.1 hmay).2.2.2
      unfold stand at h4
      rw [if_pos rfl] at h4
      exact h4
  · have hi2 : i = lbd es od := by
      unfold place at hat
      rw [if_neg (by decide)] at hat
      simp only at hat
      omega
    subst hi2
    have hn : isThere es od = false := by
      unfold place at hth
      rw [if_neg (by decide)] at hth
      exact hth
    unfold insM at he
    rw [if_neg (by omega)] at he
    rw [if_pos rfl]
    have hp : place 2 es1 os od = ((lbd es od : Int), true) := by
      unfold place
      rw [if_neg (by decide)]
      unfold isThere
      rw [he, lbd_ins, len_ins hi, getD_ins hi, if_neg (by omega), if_pos rfl, decide_eq_true (show lbd es od < es.length + 1 by omega)]
      simp [seq]
    refine ⟨by rw [he]; rw [he] at hfull; exact may_ins hmay h1 h2 hn hfull, ?_, fun e => ?_⟩
    · rw [hp]
      unfold freeM
      have e1 : ((lbd es od : Int)).toNat = lbd es od := by omega
      rw [if_pos rfl, if_pos rfl]
      simp only [e1]
      rw [he, drop_ins hi]
    · have hl : es1.length = es.length + 1 := by rw [he, len_ins hi]
      rw [e] at hl
      omega
theorem kill_undone {k : Int} {es es1 : List CE} {os : Int} {ot : Nat} {od : List Nat} (hk : k = 1 ∨ k = 2) (hmay : may k es = true) (h : killM es (place k es os od).1 (place k es os od).2 ot = (0, es1)) (ht : ot ≠ 0) (hod : k = 1 → od = []) :
    may k es1 = true ∧ wakeM es1 (place k es1 os (if k = 2 then od else [])).1 (place k es1 os (if k = 2 then od else [])).2 = (0, es) ∧ es1 ≠ es := by
  have hod2 : (if k = 2 then od else []) = od := by
    rcases hk with h | h
    · rw [if_neg (by omega), hod h]
    · rw [if_pos h]
  rw [hod2]
  unfold killM at h
  split at h
  · rename_i hth
    split at h
    · rename_i hk0
      injection h with _ h
      obtain ⟨h0, hlt⟩ := place_there hth
      obtain ⟨i, hi⟩ : ∃ i, i = (place k es os od).1.toNat := ⟨_, rfl⟩
      rw [← hi] at h hk0 hlt
      have hu : (es.getD i cz).u = true := by
        rcases hk with rfl | rfl
        · unfold place at hth hi
          rw [if_pos rfl] at hth hi
          simp only [Bool.and_eq_true, decide_eq_true_eq] at hth hi
          rw [hi]; exact hth.2.2
        · exact (rise_at (may_rise hmay rfl) hlt).1
      have he : es1 = es.set i ⟨(es.getD i cz).u, ot, (es.getD i cz).d⟩ := h.symm
      have hk1 : (es1.getD i cz).k = ot := by rw [he, getD_set hlt, if_pos rfl]
      refine ⟨by rw [he]; exact may_kill hk hmay hlt hu ot, ?_, fun e => ?_⟩
      · have hp : place k es1 os od = place k es os od := by rw [he]; exact place_kill hlt ot os od
        rw [hp]
        unfold wakeM
        rw [hth, if_pos rfl, ← hi, hk1, if_neg ht]
        rw [he, getD_set hlt, if_pos rfl, List.set_set]
        have e9 : (⟨(es.getD i cz).u, 0, (es.getD i cz).d⟩ : CE) = es.getD i cz := by rw [← hk0]
        rw [e9, set_back hlt rfl]
      · rw [e, hk0] at hk1
        exact ht hk1.symm
    · injection h with h; cases h
  · injection h with h; cases h
/-- a Put or a Kill, and what undoes it -/
theorem there_math {k : Int} {es es1 : List CE} {ok os : Int} {ot m : Nat} {od : List Nat} (h : DoM k es ok os ot m od = (0, es1)) (hm : od.length = m) (hok : ok = 1 ∨ ok = 2) :
    (undoR k ok os ot m od).e = 0 ∧ DoM k es1 (undoR k ok os ot m od).k (undoR k ok os ot m od).s 0 (undoR k ok os ot m od).d.length (undoR k ok os ot m od).d = (0, es) ∧ es1 ≠ es := by
  obtain ⟨hmay, hright, hdo⟩ := DoM_parts h
  have hk := (right_parts hright).1
  obtain ⟨r1, r2, r3, r4, r5⟩ := right_parts2 hright
  unfold undoR
  rw [if_pos ⟨hright, hok⟩]
  simp only
  unfold doM at hdo
  rcases hok with h1 | h1
  · rw [if_pos h1] at hdo ⊢
    have hmm : 1 ≤ od.length ∧ od.length ≤ 180 := by
      rcases hk with h | h
      · have := r4 h h1; omega
      · have := r3 h; omega
    obtain ⟨a, b, c⟩ := put_undone hk hmay hdo hmm.1 hmm.2
    refine ⟨trivial, ?_, c⟩
    rw [DoM_of a (right_undo hk (Or.inr rfl) (fun h => by rw [if_pos h]; exact ⟨(r3 h).1, hmm⟩) (fun h => by rw [if_neg (by omega)]; rfl))]
    unfold doM
    rw [if_neg (by decide), if_neg (by decide), if_neg (by decide)]
    exact b
  · rw [if_neg (by omega), if_pos h1] at hdo
    rw [if_neg (by omega)]
    obtain ⟨a, b, c⟩ := kill_undone hk hmay hdo (r1 h1) (fun h => List.eq_nil_of_length_eq_zero (by have := r5 h (by omega); omega))
    refine ⟨trivial, ?_, c⟩
    rw [DoM_of a (right_undo hk (Or.inl rfl) (fun h => by rw [if_pos h]; have := r3 h; exact ⟨this.1, by omega, by omega⟩) (fun h => by rw [if_neg (by omega)]; rfl))]
    unfold doM
    rw [if_neg (by decide), if_neg (by decide), if_pos rfl]
    exact b
end Go.Proofs.Ytajmpoanmdgmpaa
