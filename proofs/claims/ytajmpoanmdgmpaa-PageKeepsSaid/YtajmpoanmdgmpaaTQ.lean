/-
  THE MATHEMATICS OF ROOM: a Put of as many bytes as there is room for is done, one of a byte more is not.
-/
import Derived.Test.YtajmpoanmdgmpaaTN
import Derived.Test.YtajmpoanmdgmpaaTP
import Derived.Test.YtajmpoanmdgmpaaPH
namespace Go.Proofs.Ytajmpoanmdgmpaa

theorem right_put3 {kd s : Int} {m : Nat} (hkd : kd = 1 ∨ kd = 2) (hs : kd = 2 → s = 0) : rightP kd 1 s 0 m = dataOk m := by
  unfold rightP
  have ht : takes kd = true := by unfold takes; rcases hkd with h | h <;> simp [h]
  rw [ht, if_neg (by decide), if_neg (by decide), if_neg (by decide), if_neg (by decide)]
  rcases hkd with h | h
  · rw [if_neg (by omega), if_pos rfl]
  · rw [if_pos h, if_pos (hs h)]
theorem psz_ins {es : List CE} (i : Nat) (c : CE) : psz (es.take i ++ c :: es.drop i) = psz es + csz c := by
  have h : (es.map csz).sum = ((es.take i).map csz).sum + ((es.drop i).map csz).sum := by
    rw [← List.sum_append, ← List.map_append, List.take_append_drop]
  unfold psz
  rw [h]
  simp only [List.map_append, List.map_cons, List.sum_append, List.sum_cons]
  omega
theorem room_full {k : Int} {es : List CE} (hk : k = 1 ∨ k = 2) (hmay : may k es = true) {i : Nat} (hi : i ≤ es.length) (hs1 : k = 1 → (i = es.length ∧ unused es = false) ∨ (i < es.length ∧ (es.getD i cz).u = false)) {d : List Nat} (hd1 : 1 ≤ d.length) (hd : d.length ≤ 180) :
    (d.length ≤ roomN es → full (insM k es i d) = false) ∧ (roomN es < d.length → full (insM k es i d) = true) := by
  obtain ⟨m1, _, m3, m4⟩ := may_iff.1 hmay
  have hc : csz ⟨true, 0, d⟩ = 6 + d.length := rfl
  by_cases hin : k = 1 ∧ i < es.length
  · have hu := (hs1 hin.1).resolve_left (fun h => by omega)
    have hun : unused es = true := by
      unfold unused
      rw [List.any_eq_true]
      refine ⟨es.getD i cz, ?_, by rw [hu.2]; rfl⟩
      rw [getD_lt hin.2]
      exact List.getElem_mem _
    have hp := psz_set (c := ⟨true, 0, d⟩) hin.2
    have hz : csz (es.getD i cz) = 2 := by unfold csz; rw [hu.2]; rfl
    rw [hz, hc] at hp
    unfold insM roomN full
    rw [if_pos hin, hun, if_pos rfl, List.length_set]
    refine ⟨fun h => ?_, fun h => ?_⟩
    · rw [decide_eq_false (by omega), decide_eq_false (by omega)]; rfl
    · rw [decide_eq_true (show 512 < psz _ by omega), Bool.or_true]
  · have hun : unused es = false := by
      rcases hk with h | h
      · rcases hs1 h with h' | h'
        · exact h'.2
        · exact absurd ⟨h, h'.1⟩ hin
      · have hr := may_rise hmay h
        unfold unused
        rw [Bool.eq_false_iff]
        intro ha
        rw [List.any_eq_true] at ha
        obtain ⟨c, hcm, hcu⟩ := ha
        obtain ⟨j, hj, rfl⟩ := List.mem_iff_getElem.1 hcm
        have := (rise_at hr hj).1
        rw [getD_lt hj] at this
        rw [this] at hcu
        cases hcu
    have hp := psz_ins (es := es) i ⟨true, 0, d⟩
    have hl := len_ins (c := ⟨true, 0, d⟩) hi
    rw [hc] at hp
    unfold insM roomN full
    rw [if_neg hin, hun, if_neg (by decide), hl, hp]
    refine ⟨fun h => ?_, fun h => ?_⟩
    · split at h
      · omega
      · rw [decide_eq_false (by omega), decide_eq_false (by omega)]; rfl
    · split at h
      · rw [decide_eq_true (show 60 < es.length + 1 by omega), Bool.true_or]
      · rw [decide_eq_true (show 512 < psz es + (6 + d.length) by omega), Bool.or_true]
theorem roomN_le (es : List CE) : roomN es ≤ 180 := by
  unfold roomN
  split
  · omega
  · split <;> omega
theorem room_put {k : Int} {es : List CE} (hk : k = 1 ∨ k = 2) (hmay : may k es = true) {s : Nat} (hs1 : k = 1 → (s = es.length ∧ unused es = false) ∨ (s < es.length ∧ (es.getD s cz).u = false)) (hs2 : k = 2 → s = 0) {d : List Nat} (hd1 : 1 ≤ d.length) (hth : k = 2 → isThere es d = false) :
    (d.length ≤ roomN es → (DoM k es 1 (s : Int) 0 d.length d).1 = 0) ∧ (roomN es < d.length → (DoM k es 1 (s : Int) 0 d.length d).1 ≠ 0 ∧ (d.length ≤ 180 → (DoM k es 1 (s : Int) 0 d.length d).1 = 4)) := by
  have hR := roomN_le es
  have hright := right_put3 (m := d.length) (s := (s : Int)) hk (fun h => by have := hs2 h; omega)
  by_cases hd : d.length ≤ 180
  · have hr : rightP k 1 (s : Int) 0 d.length = true := by
      rw [hright]; unfold dataOk; simp [hd1, hd]
    rw [DoM_of hmay hr]
    have hdo : doM k es 1 (s : Int) 0 d = putM k es (place k es (s : Int) d).1 (place k es (s : Int) d).2 d := by unfold doM; rw [if_pos rfl]
    rw [hdo]
    have hpl : ∃ i : Nat, place k es (s : Int) d = ((i : Int), false) ∧ i ≤ es.length ∧ (k = 1 → (i = es.length ∧ unused es = false) ∨ (i < es.length ∧ (es.getD i cz).u = false)) := by
      rcases hk with h | h
      · refine ⟨s, ?_, ?_, hs1⟩
        · unfold place
          rw [if_pos h]
          have e1 : ((s : Int)).toNat = s := by omega
          rw [e1]
          rcases hs1 h with h' | h'
          · rw [decide_eq_false (show ¬ s < es.length by omega)]; simp
          · rw [h'.2]; simp
        · rcases hs1 h with h' | h' <;> omega
      · refine ⟨lbd es d, ?_, lbd_le es d, fun h' => by omega⟩
        unfold place
        rw [if_neg (by omega), hth h]
    obtain ⟨i, e, hi, hsi⟩ := hpl
    rw [e]
    obtain ⟨f1, f2⟩ := room_full hk hmay hi hsi hd1 hd
    have hput : putM k es (i : Int) false d = if full (insM k es i d) then (4, []) else (0, insM k es i d) := by
      unfold putM
      rw [if_neg (by omega), if_neg (by decide)]
      rfl
    simp only
    rw [hput]
    refine ⟨fun h => by rw [f1 h]; rfl, fun h => by rw [f2 h]; exact ⟨by show (4 : Int) ≠ 0; decide, fun _ => rfl⟩⟩
  · have hr : rightP k 1 (s : Int) 0 d.length = false := by
      rw [hright]; unfold dataOk; rw [decide_eq_false hd, Bool.and_false]
    refine ⟨fun h => by omega, fun h => ⟨?_, fun h' => by omega⟩⟩
    unfold DoM
    rw [if_pos hmay, hr]
    show (1 : Int) ≠ 0
    decide
/-- a leaf that has no cell of some bytes in use has none -/
theorem at_leaf {es : List CV} {d : List Nat} (hmay : may 2 (es.map CV.e) = true) (hb : ∀ c ∈ es, ∀ x ∈ c.d, x < 256) (hd : ∀ x ∈ d, x < 256) (h : (atC es d).u = false) : isThere (es.map CV.e) d = false := by
  have hr := may_rise hmay rfl
  rw [Bool.eq_false_iff]
  intro ht
  unfold isThere at ht
  rw [Bool.and_eq_true, decide_eq_true_eq] at ht
  obtain ⟨h1, h2⟩ := ht
  have hl : lbd (es.map CV.e) d < es.length := by simpa using h1
  have hc : (es.map CV.e).getD (lbd (es.map CV.e) d) cz = es[lbd (es.map CV.e) d].e := by rw [getD_lt h1, List.getElem_map]
  rw [hc] at h2
  replace h2 : seq es[lbd (es.map CV.e) d].d d = true := h2
  rw [seq_iff (hb _ (List.getElem_mem hl)) hd, decide_eq_true_eq] at h2
  have hsome : (es.find? fun x => decide (x.d = d)).isSome := by
    rw [List.find?_isSome]
    exact ⟨_, List.getElem_mem hl, by simpa using h2⟩
  obtain ⟨c, hcf⟩ := Option.isSome_iff_exists.1 hsome
  have hm := List.mem_of_find?_eq_some hcf
  unfold atC at h
  rw [hcf] at h
  obtain ⟨j, hj, rfl⟩ := List.mem_iff_getElem.1 hm
  have hu := (rise_at hr (show j < (es.map CV.e).length by simpa using hj)).1
  rw [getD_lt (by simpa using hj), List.getElem_map] at hu
  have hu2 : es[j].u = true := hu
  simp only [Option.getD_some] at h
  rw [hu2] at h
  cases h
end Go.Proofs.Ytajmpoanmdgmpaa
